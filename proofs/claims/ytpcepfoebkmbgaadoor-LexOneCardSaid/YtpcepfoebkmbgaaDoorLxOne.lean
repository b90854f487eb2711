/- A scan of one written token. -/
import Derived.Test.YtpcepfoebkmbgaaDoorLxAwake
import Derived.Test.YtpcepfoebkmbgaaDoorLxWrM
namespace Go.Proofs.YtpcepfoebkmbgaaDoor
open Go.RowKit
set_option linter.unusedVariables false
theorem bs_mk (l : LX.Bs) : bs ⟨l.toArray⟩ = l := rfl
theorem Scan_one {k : Nat} {s : LX.Bs} {n : Int} {wd : LX.Bs} (h : LX.Wr k s n wd) (hl : wd.length ≤ 40000) (kk : Int) (hk : kk = k) (sv : ByteArray) (hs : sv = ⟨s.toArray⟩) (W : World) :
    Calls Tryd.prog 14 #[.string ⟨wd.toArray⟩] W fun e w' => ∃ b o c, e = .returned (.tuple #[.slice (some ⟨b, o, none⟩) 2 c, .int .i64 0, .int .i64 0]) ∧ w'.cell? ⟨b, o, none⟩ = some (.int .i64 kk) ∧ w'.cell? ⟨b, o + 1, none⟩ = some (.string sv) ∧ w'.cell? ⟨b, o + 2, none⟩ = some (.int .i64 n) ∧ w'.cell? ⟨b, o + 3, none⟩ = some (.int .i64 0) ∧ Below W.heap.size W w' := by
  subst hk hs
  have hsc : LX.scan (bs ⟨wd.toArray⟩) = .good [⟨k, s, n, 0⟩, ⟨0, [], 0, wd.length⟩] := h.scan hl
  refine (Scan_good hsc W).mono ?_
  rintro e w' ⟨v, rfl, hr, hb⟩
  obtain ⟨a, c, rfl, _, hr⟩ := hr
  obtain ⟨b, o, rfl, hc⟩ := hr.resolve_left (by simp)
  obtain ⟨x0, x1, x2, x3⟩ := hc 0 (by simp)
  simp at x0 x1 x2 x3
  exact ⟨b, o, c, rfl, x0, x1, x2, x3, hb⟩
end Go.Proofs.YtpcepfoebkmbgaaDoor
