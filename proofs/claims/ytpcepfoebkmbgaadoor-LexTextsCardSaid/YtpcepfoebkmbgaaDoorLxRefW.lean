/- The document's answer: a name or a key. -/
import Derived.Test.YtpcepfoebkmbgaaDoorLxLet
namespace Go.Proofs.YtpcepfoebkmbgaaDoor
open Go.RowKit
set_option linter.unusedVariables false
theorem tw_step (p : UInt8 → Bool) (s : ByteArray) (k : Nat) (h : k < s.size) (hp : p s[k] = true) : ((tl s k).takeWhile p).length = ((tl s (k + 1)).takeWhile p).length + 1 := by
  rw [tl_cons s k h, List.takeWhile_cons, if_pos hp]; rfl
theorem tw_stop (p : UInt8 → Bool) (s : ByteArray) (k : Nat) (h : k < s.size) (hp : p s[k] = false) : ((tl s k).takeWhile p).length = 0 := by
  rw [tl_cons s k h, List.takeWhile_cons, if_neg (by simp [hp])]; rfl
theorem tw_nil (p : UInt8 → Bool) (s : ByteArray) (k : Nat) (h : s.size ≤ k) : ((tl s k).takeWhile p).length = 0 := by
  rw [tl_nil s k h]; rfl
/-- how many bytes of a name are ahead -/
def wl (s : ByteArray) (k : Nat) : Nat := ((tl s k).takeWhile LX.part).length
theorem wl_le (s : ByteArray) (k : Nat) (h : k ≤ s.size) : k + wl s k ≤ s.size := by
  have := LX.takeWhile_le LX.part (tl s k)
  rw [tl_len] at this; unfold wl; omega
theorem tw_take (p : UInt8 → Bool) : ∀ l : LX.Bs, l.takeWhile p = l.take (l.takeWhile p).length := by
  intro l
  have := List.takeWhile_prefix p (l := l)
  exact (List.prefix_iff_eq_take.1 this)
theorem word_bytes (s : ByteArray) (k j : Nat) (h : j = k + wl s k) : bs (s.extract k j) = (tl s k).takeWhile LX.part := by
  rw [ext_take s k j _ h, tw_take]; rfl
theorem word_long {s : ByteArray} {k : Nat} (h : 24 < wl s k) : LX.wordR (tl s k) = .bad 2 := by
  unfold wl at h; unfold LX.wordR; rw [if_pos h]
theorem word_key {s : ByteArray} {k : Nat} (h : ¬ 24 < wl s k) (hk : (tl s k).takeWhile LX.part ∈ LX.keyL) : LX.wordR (tl s k) = .good 4 ((tl s k).takeWhile LX.part) 0 (wl s k) := by
  unfold wl at h ⊢; unfold LX.wordR; rw [if_neg h, if_pos hk]
theorem word_name {s : ByteArray} {k : Nat} (h : ¬ 24 < wl s k) (hk : (tl s k).takeWhile LX.part ∉ LX.keyL) : LX.wordR (tl s k) = .good 1 ((tl s k).takeWhile LX.part) 0 (wl s k) := by
  unfold wl at h ⊢; unfold LX.wordR; rw [if_neg h, if_neg hk]
end Go.Proofs.YtpcepfoebkmbgaaDoor
