/- The document's answer: how a string is quoted. -/
import Derived.Test.YtfnkafnjpldaoaaDoorLxWrM
import Derived.Test.YtfnkafnjpldaoaaDoorLxAt
namespace Go.Proofs.YtfnkafnjpldaoaaDoor
open Go.RowKit
set_option linter.unusedVariables false
namespace LX
/-- a quoted string, or the error -/
def quoteR (l : Bs) : Bs × Nat := if l.all okq = false then ([], 3) else if 100 < l.length then ([], 2) else (quote l, 0)
theorem quoteR_bad {l : Bs} {k : Nat} (hk : k < l.length) (h : okq l[k] = false) : quoteR l = ([], 3) := by
  have : l.all okq = false := by rw [List.all_eq_false]; exact ⟨_, List.getElem_mem hk, by simp [h]⟩
  unfold quoteR; rw [if_pos this]
theorem quoteR_long {l : Bs} (h : l.all okq = true) (hl : 100 < l.length) : quoteR l = ([], 2) := by
  unfold quoteR; rw [if_neg (by simp [h]), if_pos hl]
theorem quoteR_good {l : Bs} (h : l.all okq = true) (hl : ¬ 100 < l.length) : quoteR l = (quote l, 0) := by
  unfold quoteR; rw [if_neg (by simp [h]), if_neg hl]
theorem qbody_succ {l : Bs} {k : Nat} (hk : k < l.length) : qbody (l.take (k + 1)) = qbody (l.take k) ++ qc l[k] := by
  unfold qbody; rw [List.take_succ_eq_append_getElem hk, List.flatMap_append]; simp
theorem qbody_take (l : Bs) (k : Nat) : (qbody (l.take k)).length ≤ 2 * l.length := by
  have h1 := (qbody_len (l.take k)).2
  have h2 := List.length_take_le k l
  have h3 : (l.take k).length ≤ l.length := by simp [List.length_take]; omega
  omega
end LX
theorem bs_cat2 (a b : LX.Bs) : (⟨a.toArray⟩ : ByteArray) ++ ⟨b.toArray⟩ = ⟨(a ++ b).toArray⟩ := by rw [ByteArray.mk_append_mk]
theorem ext_one (s : ByteArray) (k : Nat) (h : k < s.size) : s.extract k (k + 1) = ⟨#[s[k]]⟩ := by
  apply ByteArray.ext
  rw [ByteArray.data_extract]
  apply Array.ext
  · simp; omega
  · intro i h1 h2
    have : i = 0 := by simp at h2; omega
    subst this
    simp; rfl
end Go.Proofs.YtfnkafnjpldaoaaDoor
