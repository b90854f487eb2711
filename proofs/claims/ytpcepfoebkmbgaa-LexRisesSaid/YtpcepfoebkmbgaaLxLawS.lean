/- What the laws of consequences share: any scan, strings in a row. -/
import Derived.Test.YtpcepfoebkmbgaaLxAwake
import Derived.Test.YtpcepfoebkmbgaaLxLawM
import Derived.Test.YtpcepfoebkmbgaaLxEqT
namespace Go.Proofs.Ytpcepfoebkmbgaa
open Go.RowKit
set_option linter.unusedVariables false
theorem Scan_any (s : ByteArray) (W : World) : Calls Try.prog 10 #[.string s] W fun e w' => ∃ (v : Value) (er p : Int), e = .returned (.tuple #[v, .int .i64 er, .int .i64 p]) ∧ Below W.heap.size W w' := by
  refine (Scan_c s W).mono ?_
  rintro e w' ⟨h1, h2⟩
  unfold ScanR at h1
  split at h1
  · exact ⟨_, _, _, h1, h2⟩
  · obtain ⟨v, h3, _⟩ := h1
    exact ⟨_, _, _, h3, h2⟩
theorem bs_app (a b : ByteArray) : bs (a ++ b) = bs a ++ bs b := by simp [bs]
theorem bs_cat (a b : ByteArray) : bs (a ++ ⟨#[10]⟩ ++ b) = bs a ++ 10 :: bs b := by rw [bs_app, bs_app, List.append_assoc]; rfl
end Go.Proofs.Ytpcepfoebkmbgaa
