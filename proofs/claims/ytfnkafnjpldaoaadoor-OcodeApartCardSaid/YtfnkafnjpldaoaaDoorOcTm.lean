/- Whether code breaks a limit, in the document's words. -/
import Derived.Test.YtfnkafnjpldaoaaDoorOcLn
namespace Go.Proofs.YtfnkafnjpldaoaaDoor
open Go.RowKit
set_option linter.unusedVariables false
def wsum : List OC.Dat → Nat
  | [] => 0
  | d :: r => 1 + d.text.length + d.words.length + wsum r
theorem heavyGo_eq : ∀ (l : List OC.Dat) (n : Nat), heavyGo l n ≤ 2000 → heavyGo l n = n + wsum l
  | [], n, _ => by simp [heavyGo, wsum]
  | d :: r, n, h => by
    rw [heavyGo] at h ⊢
    split at h
    · rename_i hn
      rw [if_pos hn, heavyGo_eq r _ h, wsum]; omega
    · omega
/-- code that the statements look at -/
structure Small (c : OC.Code) : Prop where
  ops : c.ops.length ≤ 40100
  globals : c.globals.length ≤ 400
  weight : c.name.length + wsum c.data ≤ 2000
theorem small_of {c : OC.Code} (h : heavyC c 40100 = false) : Small c := by
  unfold heavyC at h
  simp at h
  obtain ⟨⟨h1, h2⟩, h3⟩ := h
  exact ⟨h1, h2, by rw [← heavyGo_eq _ _ h3]; exact h3⟩
theorem wsum_at : ∀ {l : List OC.Dat} {d : OC.Dat}, d ∈ l → 1 + d.text.length + d.words.length ≤ wsum l
  | [], d, h => by simp at h
  | x :: r, d, h => by
    rw [wsum]
    rcases List.mem_cons.1 h with rfl | h
    · omega
    · have := wsum_at h; omega
theorem wsum_len : ∀ (l : List OC.Dat), l.length ≤ wsum l
  | [] => by simp [wsum]
  | x :: r => by rw [wsum]; have := wsum_len r; simp; omega
theorem sumWords_le : ∀ (l : List OC.Dat), OC.sumWords l ≤ wsum l
  | [] => by simp [wsum, OC.sumWords]
  | x :: r => by
    rw [wsum, OC.sumWords, OC.datWords]
    have := sumWords_le r
    split <;> omega
theorem sumWords_drop : ∀ (l : List OC.Dat) (k : Nat), OC.sumWords (l.drop k) ≤ OC.sumWords l
  | [], k => by simp
  | x :: r, 0 => by simp
  | x :: r, k + 1 => by rw [List.drop_succ_cons, OC.sumWords]; have := sumWords_drop r k; omega
end Go.Proofs.YtfnkafnjpldaoaaDoor
