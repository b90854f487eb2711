/- The document's answer: numbers. -/
import Derived.Test.YtpcepfoebkmbgaaDoorLxRefW
namespace Go.Proofs.YtpcepfoebkmbgaaDoor
open Go.RowKit
set_option linter.unusedVariables false
/-- how many digits are ahead -/
def dl (b : Nat) (s : ByteArray) (k : Nat) : Nat := (LX.digs b (tl s k)).length
theorem dl_le (b : Nat) (s : ByteArray) (k : Nat) (h : k ≤ s.size) : k + dl b s k ≤ s.size := by
  have := LX.takeWhile_le (fun c => decide (LX.nib c < b)) (tl s k)
  rw [tl_len] at this; unfold dl LX.digs; omega
theorem dl_step (b : Nat) (s : ByteArray) (k : Nat) (h : k < s.size) (hp : LX.nib s[k] < b) : dl b s k = dl b s (k + 1) + 1 := tw_step _ s k h (by simpa using hp)
theorem dl_stop (b : Nat) (s : ByteArray) (k : Nat) (h : k < s.size) (hp : ¬ LX.nib s[k] < b) : dl b s k = 0 := tw_stop _ s k h (by simpa using hp)
theorem dl_nil (b : Nat) (s : ByteArray) (k : Nat) (h : s.size ≤ k) : dl b s k = 0 := tw_nil _ s k h
/-- the value of the bytes from f to j -/
def pv (b : Nat) (s : ByteArray) (f j : Nat) : Nat := LX.val b ((tl s f).take (j - f))
theorem pv_zero (b : Nat) (s : ByteArray) (f : Nat) : pv b s f f = 0 := by simp [pv, LX.val]
theorem pv_step (b : Nat) (s : ByteArray) (f j : Nat) (hf : f ≤ j) (h : j < s.size) : pv b s f (j + 1) = pv b s f j * b + LX.nib s[j] := by
  have e : j + 1 - f = (j - f) + 1 := by omega
  have hl : j - f < (tl s f).length := by rw [tl_len]; omega
  have hg : (tl s f)[j - f] = s[j] := by
    have : (tl s f)[j - f]? = some s[j] := by
      unfold tl
      rw [List.getElem?_drop, show f + (j - f) = j by omega, List.getElem?_eq_getElem (by rw [bs_len]; exact h)]; rfl
    rw [List.getElem?_eq_getElem hl] at this
    injection this
  unfold pv LX.val
  rw [e, List.take_succ_eq_append_getElem hl, List.foldl_append, hg]; rfl
theorem pv_all (b : Nat) (s : ByteArray) (f j : Nat) (h : j = f + dl b s f) : pv b s f j = LX.val b (LX.digs b (tl s f)) := by
  have e : j - f = dl b s f := by omega
  unfold pv
  rw [e]
  have : LX.digs b (tl s f) = (tl s f).take (dl b s f) := tw_take _ _
  rw [← this]
/-- what n says of the value v, if most is the greatest number -/
def NR (M v : Nat) (n : Int) : Prop := (v ≤ M ∧ n = (v : Int)) ∨ (M < v ∧ (M : Int) < n ∧ n ≤ (M : Int) * 16 + 16)
theorem NR.bd {M v : Nat} {n : Int} (h : NR M v n) : 0 ≤ n ∧ n ≤ (M : Int) * 16 + 16 := by
  rcases h with h | h <;> omega
theorem NR.go {M v : Nat} {n : Int} (h : NR M v n) (hn : n ≤ M) (b d : Nat) (hb : b = 10 ∨ b = 16) (hd : d < b) : NR M (v * b + d) (n * (b : Int) + (d : Int)) := by
  have h1 : v ≤ M ∧ n = (v : Int) := by rcases h with h | h <;> omega
  obtain ⟨h1, rfl⟩ := h1
  rcases Nat.lt_or_ge M (v * b + d) with h2 | h2
  · right; rcases hb with rfl | rfl <;> refine ⟨h2, ?_, ?_⟩ <;> omega
  · left; exact ⟨h2, by rw [Int.natCast_add, Int.natCast_mul]⟩
theorem NR.stay {M v : Nat} {n : Int} (h : NR M v n) (hn : ¬ n ≤ M) (b d : Nat) (hb : 1 ≤ b) : NR M (v * b + d) n := by
  rcases h with h | h
  · omega
  · right
    have : v * 1 ≤ v * b := Nat.mul_le_mul_left v hb
    omega
theorem num_bad {b M pre : Nat} {l : LX.Bs} (h : M < LX.val b (LX.digs b l)) : LX.numR b M pre l = .bad 22 := by unfold LX.numR; rw [if_pos h]
theorem num_good {b M pre : Nat} {l : LX.Bs} (h : ¬ M < LX.val b (LX.digs b l)) : LX.numR b M pre l = .good 2 [] (LX.w32 (LX.val b (LX.digs b l))) (pre + (LX.digs b l).length) := by unfold LX.numR; rw [if_neg h]
theorem nibI_neg {c : UInt8} (h : LX.nib c = 16) : nibI c = -1 := by unfold nibI; rw [if_pos h]
theorem nibI_val {c : UInt8} (h : LX.nib c ≠ 16) : nibI c = ((LX.nib c : Nat) : Int) := by unfold nibI; rw [if_neg h]
theorem nib_le (c : UInt8) : LX.nib c ≤ 16 := by
  have := u8_bd c
  unfold LX.nib
  split
  · rename_i h; have := (LX.nib_dig h); simp only [LX.isDig, Bool.and_eq_true, decide_eq_true_eq] at h; omega
  · split
    · omega
    · split <;> omega
end Go.Proofs.YtpcepfoebkmbgaaDoor
