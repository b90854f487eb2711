/- Plain mathematics: where an operator is exact by 16 bits it is so by longer words, and the word is the same. No program is named here. -/
import Derived.Test.YtmhifelkihcidaaWMath2
namespace Go.Proofs.Ytmhifelkihcidaa.WM
open Go.RowKit

theorem nm_nar {n : Int} (hb : IsBits n) {v : Int} (h : -32768 ≤ v ∧ v ≤ 32767) : nm n v = v := nm_of_nar hb (nar_mk h)
theorem opw_up {n : Int} (hb : IsBits n) (op a b : Int) (ha : -32768 ≤ a ∧ a ≤ 32767) (h : exops op a b = true) : opw op a b n = opw op a b 16 := by
  have hn : 16 ≤ n := by rcases hb with rfl | rfl | rfl <;> omega
  by_cases c : op = 6 ∨ op = 7
  · have hx : 0 ≤ a ∧ 0 ≤ b ∧ b ≤ 15 := by
      unfold exops at h
      rw [if_neg (by omega), if_pos c] at h
      simp at h
      exact ⟨h.1.1.2, h.1.2, h.2⟩
    have e1 : ¬ (b < 0 ∨ n ≤ b) := by omega
    have e2 : ¬ (b < 0 ∨ (16 : Int) ≤ b) := by omega
    have e3 : un n a = a := by rw [un_of_nm hb, nm_nar hb ha, if_neg (by omega)]
    have e4 : un 16 a = a := by rw [un_of_nm (Or.inl rfl), nm_nar (Or.inl rfl) ha, if_neg (by omega)]
    rcases c with rfl | rfl
    · show (if b < 0 ∨ n ≤ b then 0 else _) = (if b < 0 ∨ (16 : Int) ≤ b then 0 else _)
      rw [if_neg e1, if_neg e2]
    · show (if b < 0 ∨ n ≤ b then 0 else un n a / P2 b) = (if b < 0 ∨ (16 : Int) ≤ b then 0 else un 16 a / P2 b)
      rw [if_neg e1, if_neg e2, e3, e4]
  · unfold opw
    rw [if_neg (show ¬ op = 6 by omega), if_neg (show ¬ op = 7 by omega), if_neg (show ¬ op = 6 by omega), if_neg (show ¬ op = 7 by omega)]
theorem exact_up {n : Int} (hb : IsBits n) (op a b : Int) (ha : -32768 ≤ a ∧ a ≤ 32767) (hb2 : -32768 ≤ b ∧ b ≤ 32767) (h : exw op a b 16 = true) :
    exw op a b n = true ∧ apw op a b n = apw op a b 16 := by
  have h16 : IsBits 16 := Or.inl rfl
  unfold exw at h ⊢
  unfold apw
  rw [nm_nar h16 ha, nm_nar h16 hb2] at h
  rw [nm_nar h16 ha, nm_nar h16 hb2, nm_nar hb ha, nm_nar hb hb2]
  simp only [Bool.and_eq_true] at h
  rw [opw_up hb op a b ha h.1]
  exact ⟨by rw [h.1, h.2]; rfl, by rw [nm_of_nar hb h.2, nm_of_nar h16 h.2]⟩
end Go.Proofs.Ytmhifelkihcidaa.WM
