/- The statements' own method that applies an operator, by its contract. -/
import Derived.Test.YtmhifelkihcidaaPk
import Derived.Test.YtmhifelkihcidaaWMath2
import Derived.Deep.RegionHeld3
import Derived.Lib.Hide
namespace Go.Proofs.Ytmhifelkihcidaa
open Go.RowKit WM
set_option linter.unusedVariables false

set_option maxHeartbeats 400000 in
theorem of_c (n op a b : Int) (hk : Okop op b n) (w : World) :
    Calls Try.prog 41 #[.agg #[.int .i64 n], .int .i64 op, .int .i64 a, .int .i64 b] w fun e w' => e = .returned (.int .i64 (apw op a b n)) ∧ Below w.heap.size w w' := by
  go_enter Try.func41, Try.ntmps41
  go_wp2_with (first | (go_at_call 20; refine (Apply_ok _ _ _ _ hk _).mono ?_; rintro e w1 ⟨rfl, hb1⟩))
  go_ret
  exact ⟨rfl, below_then (below_alloc _ _) hb1⟩
end Go.Proofs.Ytmhifelkihcidaa
