/- Which texts are names: both sides. -/
import Derived.Test.YtfnkafnjpldaoaaDoorLxHas
import Derived.Test.YtfnkafnjpldaoaaDoorLxCh
namespace Go.Proofs.YtfnkafnjpldaoaaDoor
open Go.RowKit
set_option linter.unusedVariables false
/-- the bytes of a string -/
def bs (s : ByteArray) : LX.Bs := s.data.toList
theorem bs_len (s : ByteArray) : (bs s).length = s.size := by cases s; simp [bs, ByteArray.size]
theorem bs_at (s : ByteArray) (k : Nat) (h : k < s.size) : (bs s)[k]'(by rw [bs_len]; exact h) = s[k] := rfl
theorem bs_toList (s : ByteArray) : s.toList = bs s := by rw [ByteArray.toList_eq]; rfl
theorem bs_head (s : ByteArray) (h : 0 < s.size) : (bs s).head? = some s[0] := by
  rw [List.head?_eq_getElem?, List.getElem?_eq_getElem (by rw [bs_len]; exact h)]; rfl
theorem bs_str (s : ByteArray) : s = ⟨(bs s).toArray⟩ := by cases s; rfl
end Go.Proofs.YtfnkafnjpldaoaaDoor
