/- The chapter's first example holds. -/
import Derived.Test.YtpcepfoebkmbgaaDoorLxScan
import Derived.Laws.StructEq
import Derived.Outline
namespace Go.Proofs.YtpcepfoebkmbgaaDoor
open Go.RowKit
set_option linter.unusedVariables false
theorem awake_scan : LX.scan [120, 58, 61, 35, 102, 102] = .good [⟨1, [120], 0, 0⟩, ⟨5, [58, 61], 0, 1⟩, ⟨2, [], 255, 3⟩, ⟨0, [], 0, 6⟩] := by decide +kernel
set_option maxHeartbeats 1000000 in
theorem awake_c (w : World) : Calls Tryd.prog 11 #[] w fun e w' => e = .returned (.bool true) ∧ Below w.heap.size w w' := by
  have HC : Hid (∀ W, Calls Tryd.prog 14 #[.string ⟨#[120, 58, 61, 35, 102, 102]⟩] W fun e w' => (∃ v, e = .returned (.tuple #[v, .int .i64 0, .int .i64 0]) ∧ RdT w' v [⟨1, [120], 0, 0⟩, ⟨5, [58, 61], 0, 1⟩, ⟨2, [], 255, 3⟩, ⟨0, [], 0, 6⟩]) ∧ Below W.heap.size W w') := by
    intro W
    refine (Scan_c ⟨#[120, 58, 61, 35, 102, 102]⟩ W).mono ?_
    rintro e w' ⟨h1, h2⟩
    have e0 : LX.scan (bs ⟨#[120, 58, 61, 35, 102, 102]⟩) = _ := awake_scan
    rw [e0] at h1
    exact ⟨h1, h2⟩
  go_enter Tryd.func11, Tryd.ntmps11
  go_wp2_with (go_at_call 14; refine (HC.out _).mono ?_; rintro e w1 ⟨⟨v, rfl, hr⟩, hb1⟩; obtain ⟨va, vc, rfl, hvl, hvr⟩ := hr; obtain ⟨vb, vo, rfl, hcl⟩ := hvr.resolve_left (by simp); obtain ⟨x00, x01, x02, x03⟩ := hcl 0 (by simp); obtain ⟨x10, x11, x12, x13⟩ := hcl 1 (by simp); obtain ⟨x20, x21, x22, x23⟩ := hcl 2 (by simp); clear hcl hvl hvr; simp at x00 x01 x02 x03 x10 x11 x12 x13 x20 x21 x22 x23)
  go_ret
  exact ⟨rfl, hb1⟩
theorem Scan_bad {s : ByteArray} {er p : Nat} (h : LX.scan (bs s) = .bad er p) (W : World) : Calls Tryd.prog 14 #[.string s] W fun e w' => e = .returned (.tuple #[.slice none 0 0, .int .i64 (er : Int), .int .i64 (p : Int)]) ∧ Below W.heap.size W w' := by
  refine (Scan_c s W).mono ?_
  rintro e w' ⟨h1, h2⟩
  rw [h] at h1
  exact ⟨h1, h2⟩
theorem Scan_good {s : ByteArray} {ts : List LX.Tok} (h : LX.scan (bs s) = .good ts) (W : World) : Calls Tryd.prog 14 #[.string s] W fun e w' => ∃ v, e = .returned (.tuple #[v, .int .i64 0, .int .i64 0]) ∧ RdT w' v ts ∧ Below W.heap.size W w' := by
  refine (Scan_c s W).mono ?_
  rintro e w' ⟨h1, h2⟩
  rw [h] at h1
  obtain ⟨v, h3, h4⟩ := h1
  exact ⟨v, h3, h4, h2⟩
end Go.Proofs.YtpcepfoebkmbgaaDoor
