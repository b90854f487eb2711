/- The program's scanner: all blanks and comments. -/
import Derived.Test.YtpcepfoebkmbgaaDoorLxSkip
namespace Go.Proofs.YtpcepfoebkmbgaaDoor
open Go.RowKit
set_option linter.unusedVariables false
theorem skipOne_yes (s : ByteArray) (b p q : Nat) (km sg : Value) (w : World) (hs : s.size ≤ 1000000) (hS : Scn w b s p q km sg) (hlt : q < s.size) (hz : LX.skipG false (tl s q) ≠ 0) :
    Calls Tryd.prog 39 #[.pointer (some ⟨b, 0, none⟩)] w fun e w' => e = .returned (.bool true) ∧ ∃ q' : Nat, q < q' ∧ q' ≤ s.size ∧ q' + LX.skipG false (tl s q') = q + LX.skipG false (tl s q) ∧ Scn w' b s p q' km sg ∧ w.grownBy w' (some b) := by
  by_cases h3 : s[q].toNat = 32 ∨ s[q].toNat = 9 ∨ s[q].toNat = 10
  · refine (skipOne_blank s b p q km sg w hs hS hlt h3).mono ?_
    rintro e w' ⟨he, h1, h2⟩
    exact ⟨he, q + 1, by omega, by omega, by rw [skip_blank s q hlt h3]; omega, h1, h2⟩
  · by_cases h47 : s[q].toNat = 47 ∧ ∃ h2 : q + 1 < s.size, s[q + 1].toNat = 47
    · obtain ⟨h47, h2, h47b⟩ := h47
      exact skipOne_com s b p q km sg w hs hS hlt h47 h2 h47b
    · exact absurd (skip_tok s q hlt h3 (fun ha h2 hb => h47 ⟨ha, h2, hb⟩)) hz
set_option maxHeartbeats 1000000 in
theorem skip_c (s : ByteArray) (b p q : Nat) (km sg : Value) (w : World) (hs : s.size ≤ 1000000) (hS : Scn w b s p q km sg) (hqs : q ≤ s.size) :
    Calls Tryd.prog 27 #[.pointer (some ⟨b, 0, none⟩)] w fun e w' => e = .returned (.tuple #[]) ∧ Scn w' b s (q + LX.skipG false (tl s q)) (q + LX.skipG false (tl s q)) km sg ∧ w.grownBy w' (some b) := by
  go_enter Tryd.func27, Tryd.ntmps27
  go_wp2
  go_loopw [2] (fun _ wr => ∃ j : Nat, j ≤ s.size ∧ Hid (j + LX.skipG false (tl s j) = q + LX.skipG false (tl s q)) ∧ Scn wr b s p j km sg ∧ w.grownBy wr (some b)) (fun _ wr => s.size - nextOf wr b)
  case atStart => exact ⟨q, hqs, (show Hid _ from (rfl : q + LX.skipG false (tl s q) = _)), hS, only_refl _ _⟩
  case round =>
    obtain ⟨j, hj, hq, hS2, hg⟩ := hrel
    have hn2 := hS2.next
    have HN := Lib.hid hn2
    have HS2 := Lib.hid hS2
    have hl2 := hS2.lt
    clear hn2
    obtain ⟨c0, c1, c2, c3, c4, c5⟩ := hS2
    have j0 : (0 : Int) ≤ (j : Int) := by omega
    by_cases hjl : j < s.size
    · have g1 : decide ((j : Int) < (s.size : Int)) = true := by rw [decide_eq_true_iff]; omega
      by_cases hz : LX.skipG false (tl s j) = 0
      · have HC := Lib.hid (fun (W : World) (h : Scn W b s p j km sg) => skipOne_no s b p j km sg W hs h hjl hz)
        have hz' : Hid (j = q + LX.skipG false (tl s q)) := by show _ = _; rw [← hq.out, hz]; omega
        clear hz
        go_wp2
        go_still_tail 12, (by kernel_rfl)
        change wpList _ _ _ _ _ wr.drew
        go_wp2_with (go_at_call 39; refine (HC.out _ HS2.out.drew).mono ?_; rintro e w1 ⟨rfl, hS3, hg3⟩; have HS3 := Lib.hid hS3; have hl3 := hS3.lt; obtain ⟨d0, d1, d2, d3, d4, d5⟩ := hS3)
        go_end0
        exact ⟨rfl, by rw [← hz'.out]; exact HS3.out.setAt _ _ rfl, only_setCell (only_trans (only_drew hg) hg3) (.inl rfl) _⟩
      · have HC := Lib.hid (fun (W : World) (h : Scn W b s p j km sg) => skipOne_yes s b p j km sg W hs h hjl hz)
        clear hz
        go_wp2
        go_still_tail 12, (by kernel_rfl)
        change wpList _ _ _ _ _ wr.drew
        go_wp2_with (go_at_call 39; refine (HC.out _ HS2.out.drew).mono ?_; rintro e w1 ⟨rfl, j2, hj2, hj3, hq3, hS3, hg3⟩; have HQ3 := Lib.hid hq3; clear hq3)
        go_roundw
        case rel => exact ⟨j2, hj3, (show Hid _ from HQ3.out.trans hq.out), hS3, only_trans (only_drew hg) hg3⟩
        case measure => rw [hS3.next, HN.out]; omega
    · have g1 : decide ((j : Int) < (s.size : Int)) = false := by rw [decide_eq_false_iff_not]; omega
      have hz' : Hid (j = q + LX.skipG false (tl s q)) := by show _ = _; rw [← hq.out, skip_nil s j _ (by omega)]; omega
      go_wp2
      go_quiet (fail)
      go_wp2
      go_end0
      exact ⟨rfl, by rw [← hz'.out]; exact (HS2.out.drewN _).setAt _ _ rfl, only_setCell (only_drewN hg _) (.inl rfl) _⟩
end Go.Proofs.YtpcepfoebkmbgaaDoor
