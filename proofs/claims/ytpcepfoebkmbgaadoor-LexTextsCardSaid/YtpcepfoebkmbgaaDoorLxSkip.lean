/- The program's scanner: blanks and comments. -/
import Derived.Test.YtpcepfoebkmbgaaDoorLxScn
import Derived.Test.YtpcepfoebkmbgaaDoorLxPre
import Derived.IntWalk
import Derived.StillTailTactics
import Derived.Outline
namespace Go.Proofs.YtpcepfoebkmbgaaDoor
open Go.RowKit
set_option linter.unusedVariables false
/-- the next place, as it is written in memory -/
def nextOf (w : World) (b : Nat) : Nat := match w.cell? ⟨b, 2, none⟩ with | some v => (intOf v).toNat | none => 0
theorem Scn.next {w : World} {b : Nat} {s : ByteArray} {p q : Nat} {km sg : Value} (h : Scn w b s p q km sg) : nextOf w b = q := by
  unfold nextOf; rw [h.2.2.1]; simp [intOf]
set_option maxHeartbeats 1000000 in
theorem skipOne_blank (s : ByteArray) (b p q : Nat) (km sg : Value) (w : World) (hs : s.size ≤ 1000000) (hS : Scn w b s p q km sg) (hlt : q < s.size) (h3 : s[q].toNat = 32 ∨ s[q].toNat = 9 ∨ s[q].toNat = 10) :
    Calls Tryd.prog 39 #[.pointer (some ⟨b, 0, none⟩)] w fun e w' => e = .returned (.bool true) ∧ Scn w' b s p (q + 1) km sg ∧ w.grownBy w' (some b) := by
  have hl := hS.lt
  have HS := Lib.hid hS
  obtain ⟨c0, c1, c2, c3, c4, c5⟩ := hS
  have k0 : (0 : Int) ≤ (q : Int) := by omega
  have k1 : (q : Int) ≤ (s.size : Int) := by omega
  have x0 : 0 < s.size - q := by omega
  have x1 : 0 < (s.extract q s.size).size := by rw [ext_size]; exact x0
  have x2 := ext_head s q hlt x1
  rw [← x2] at h3
  clear x2
  by_cases h32 : (s.extract q s.size)[0].toNat = 32
  · have e132 := eqT (c := (s.extract q s.size)[0]) 32 (by omega)
    clear h3 h32
    go_enter Tryd.func39, Tryd.ntmps39
    go_wp2
    go_quiet (fail)
    go_wp2
    go_ret
    exact ⟨rfl, (HS.out.drewN _).setNext _ _ (by omega), only_setCell (only_drewN (only_refl _ _) _) (.inl rfl) _⟩
  have e32 := eqF (c := (s.extract q s.size)[0]) 32 (by omega)
  by_cases h9 : (s.extract q s.size)[0].toNat = 9
  · have e19 := eqT (c := (s.extract q s.size)[0]) 9 (by omega)
    clear h3 h32 h9
    go_enter Tryd.func39, Tryd.ntmps39
    go_wp2
    go_quiet (fail)
    go_wp2
    go_ret
    exact ⟨rfl, (HS.out.drewN _).setNext _ _ (by omega), only_setCell (only_drewN (only_refl _ _) _) (.inl rfl) _⟩
  have e9 := eqF (c := (s.extract q s.size)[0]) 9 (by omega)
  have e110 := eqT (c := (s.extract q s.size)[0]) 10 (by omega)
  clear h3 h32 h9
  go_enter Tryd.func39, Tryd.ntmps39
  go_wp2
  go_quiet (fail)
  go_wp2
  go_ret
  exact ⟨rfl, (HS.out.drewN _).setNext _ _ (by omega), only_setCell (only_drewN (only_refl _ _) _) (.inl rfl) _⟩
set_option maxHeartbeats 1000000 in
theorem skipOne_no (s : ByteArray) (b p q : Nat) (km sg : Value) (w : World) (hs : s.size ≤ 1000000) (hS : Scn w b s p q km sg) (hlt : q < s.size) (hz : LX.skipG false (tl s q) = 0) :
    Calls Tryd.prog 39 #[.pointer (some ⟨b, 0, none⟩)] w fun e w' => e = .returned (.bool false) ∧ Scn w' b s p q km sg ∧ w.grownBy w' (some b) := by
  have hl := hS.lt
  have HS := Lib.hid hS
  obtain ⟨c0, c1, c2, c3, c4, c5⟩ := hS
  have k0 : (0 : Int) ≤ (q : Int) := by omega
  have k1 : (q : Int) ≤ (s.size : Int) := by omega
  have x0 : 0 < s.size - q := by omega
  have x1 : 0 < (s.extract q s.size).size := by rw [ext_size]; exact x0
  have x2 := ext_head s q hlt x1
  have h3 : ¬ (s[q].toNat = 32 ∨ s[q].toNat = 9 ∨ s[q].toNat = 10) := by
    intro h; rw [skip_blank s q hlt h] at hz; omega
  have hpre : (false : Bool) = decide ((bs (s.extract q s.size)).take (bs ⟨#[47, 47]⟩).length = bs ⟨#[47, 47]⟩) := by
    symm
    rw [decide_eq_false_iff_not, ext_rest]
    intro h
    have h2 : (tl s q).take 2 = [47, 47] := h
    rw [tl_cons s q hlt] at h2
    injection h2 with ha hb
    have hq2 : q + 1 < s.size := by
      rcases Nat.lt_or_ge (q + 1) s.size with h0 | h0
      · exact h0
      · rw [tl_nil s (q + 1) h0] at hb; cases hb
    rw [tl_cons s (q + 1) hq2] at hb
    injection hb with hb _
    rw [skip_com s q hlt (by rw [ha]; rfl) hq2 (by rw [hb]; rfl), skip_in s q hlt (by rw [ha]; decide)] at hz
    omega
  have HP := Lib.hid (fun W => HasPrefix_c (s.extract q s.size) ⟨#[47, 47]⟩ W (by rw [ext_size]; omega) false hpre)
  rw [← x2] at h3
  have e1 := eqF (c := (s.extract q s.size)[0]) 32 (by omega)
  have e2 := eqF (c := (s.extract q s.size)[0]) 9 (by omega)
  have e3 := eqF (c := (s.extract q s.size)[0]) 10 (by omega)
  clear x2 h3 hpre hz
  go_enter Tryd.func39, Tryd.ntmps39
  go_wp2
  go_quiet (fail)
  go_wp2_with (go_at_call 59; refine (HP.out _).mono ?_; rintro e w' ⟨rfl, rfl⟩)
  go_ret
  exact ⟨rfl, HS.out.drewN _, only_drewN (only_refl _ _) _⟩
set_option maxHeartbeats 1000000 in
theorem skipOne_com (s : ByteArray) (b p q : Nat) (km sg : Value) (w : World) (hs : s.size ≤ 1000000) (hS : Scn w b s p q km sg) (hlt : q < s.size) (h47 : s[q].toNat = 47) (hlt2 : q + 1 < s.size) (h47b : s[q + 1].toNat = 47) :
    Calls Tryd.prog 39 #[.pointer (some ⟨b, 0, none⟩)] w fun e w' => e = .returned (.bool true) ∧ ∃ q' : Nat, q < q' ∧ q' ≤ s.size ∧ q' + LX.skipG false (tl s q') = q + LX.skipG false (tl s q) ∧ Scn w' b s p q' km sg ∧ w.grownBy w' (some b) := by
  have hl := hS.lt
  have HS := Lib.hid hS
  obtain ⟨c0, c1, c2, c3, c4, c5⟩ := hS
  have k0 : (0 : Int) ≤ (q : Int) := by omega
  have k1 : (q : Int) ≤ (s.size : Int) := by omega
  have x0 : 0 < s.size - q := by omega
  have x1 : 0 < (s.extract q s.size).size := by rw [ext_size]; exact x0
  have x2 := ext_head s q hlt x1
  have hpre : (true : Bool) = decide ((bs (s.extract q s.size)).take (bs ⟨#[47, 47]⟩).length = bs ⟨#[47, 47]⟩) := by
    symm
    rw [decide_eq_true_iff, ext_rest, tl_cons s q hlt, tl_cons s (q + 1) hlt2, u8_ext (c := s[q]) (d := 47) h47, u8_ext (c := s[q + 1]) (d := 47) h47b]; rfl
  have HP := Lib.hid (fun W => HasPrefix_c (s.extract q s.size) ⟨#[47, 47]⟩ W (by rw [ext_size]; omega) true hpre)
  have hst : q + 2 + LX.skipG true (tl s (q + 2)) = q + LX.skipG false (tl s q) := by
    rw [skip_com s q hlt h47 hlt2 h47b, skip_in s q hlt (by omega), skip_in s (q + 1) hlt2 (by omega), show q + 1 + 1 = q + 2 from rfl]; omega
  have HST := Lib.hid hst
  rw [← x2] at h47
  have e1 := eqF (c := (s.extract q s.size)[0]) 32 (by omega)
  have e2 := eqF (c := (s.extract q s.size)[0]) 9 (by omega)
  have e3 := eqF (c := (s.extract q s.size)[0]) 10 (by omega)
  clear x2 hpre hst h47 h47b
  go_enter Tryd.func39, Tryd.ntmps39
  go_wp2
  go_quiet (fail)
  go_wp2_with (go_at_call 59; refine (HP.out _).mono ?_; rintro e w' ⟨rfl, rfl⟩)
  go_loopw [44] (fun _ wr => ∃ j : Nat, q < j ∧ j ≤ s.size ∧ Hid (j + LX.skipG true (tl s j) = q + LX.skipG false (tl s q)) ∧ Scn wr b s p j km sg ∧ w.grownBy wr (some b)) (fun _ wr => s.size - nextOf wr b)
  case atStart => exact ⟨q + 2, by omega, by omega, HST, (HS.out.drewN _).setNext _ _ (by omega), only_setCell (only_drewN (only_refl _ _) _) (.inl rfl) _⟩
  case round =>
    obtain ⟨j, hj1, hj2, hq, hS2, hg⟩ := hrel
    have hn2 := hS2.next
    have HN := Lib.hid hn2
    have HS2 := Lib.hid hS2
    have hl2 := hS2.lt
    clear c0 c1 c2 c3 c4 c5 hn2
    obtain ⟨c0, c1, c2, c3, c4, c5⟩ := hS2
    have j0 : (0 : Int) ≤ (j : Int) := by omega
    by_cases hjl : j < s.size
    · have g1 : decide ((j : Int) < (s.size : Int)) = true := by rw [decide_eq_true_iff]; omega
      by_cases h10 : s[j].toNat = 10
      · have hr : Hid (j + LX.skipG false (tl s j) = q + LX.skipG false (tl s q)) := by show _ = _; rw [← hq.out, skip_out s j hjl h10]
        have f1 := neF (c := s[j]) 10 (by omega)
        clear h10
        go_wp2
        go_quiet (fail)
        go_wp2
        go_ret
        exact ⟨rfl, j, hj1, hj2, hr.out, HS2.out.drewN _, only_drewN hg _⟩
      · have hr : Hid (j + 1 + LX.skipG true (tl s (j + 1)) = q + LX.skipG false (tl s q)) := by show _ = _; rw [← hq.out, skip_in s j hjl h10]; omega
        have f1 := neT (c := s[j]) 10 (by omega)
        clear h10
        go_wp2
        go_quiet (fail)
        go_wp2
        go_roundw
        case rel => exact ⟨j + 1, by omega, by omega, hr, (HS2.out.drewN _).setNext _ _ (by omega), only_setCell (only_drewN hg _) (.inl rfl) _⟩
        case measure =>
          rw [((HS2.out.drewN _).setNext _ (j + 1) (by omega)).next, HN.out]; omega
    · have g1 : decide ((j : Int) < (s.size : Int)) = false := by rw [decide_eq_false_iff_not]; omega
      have hr : Hid (j + LX.skipG false (tl s j) = q + LX.skipG false (tl s q)) := by show _ = _; rw [← hq.out, skip_nil s j _ (by omega), skip_nil s j _ (by omega)]
      go_wp2
      go_quiet (fail)
      go_wp2
      go_ret
      exact ⟨rfl, j, hj1, hj2, hr.out, HS2.out.drewN _, only_drewN hg _⟩
end Go.Proofs.YtpcepfoebkmbgaaDoor
