/- The document's answer: what is skipped; a byte or an escape. -/
import Derived.Test.YtpcepfoebkmbgaaLxAt
import Derived.Outline
namespace Go.Proofs.Ytpcepfoebkmbgaa
open Go.RowKit
set_option linter.unusedVariables false
set_option maxHeartbeats 1000000 in
theorem behind_c (s : ByteArray) (k0 : Nat) (w : World) (hs : s.size ≤ 1000000) (hk0 : k0 ≤ s.size) :
    Calls Try.prog 27 #[.string s, .int .i64 (k0 : Nat)] w fun e w' => e = .returned (.int .i64 ((k0 + LX.skipG false (tl s k0) : Nat))) ∧ w = w' := by
  go_enter Try.func27, Try.ntmps27
  go_wp2
  go_loop [1] (fun i => ∃ k : Nat, k ≤ s.size ∧ i = .int .i64 k ∧ Hid (k + LX.skipG false (tl s k) = k0 + LX.skipG false (tl s k0))) (fun i => s.size - (intOf i).toNat)
  case atStart => exact ⟨k0, hk0, rfl, (show Hid _ from (rfl : k0 + LX.skipG false (tl s k0) = _))⟩
  case round =>
    obtain ⟨k, hk, rfl, hq⟩ := hrel
    by_cases hlt : k < s.size
    · by_cases h3 : s[k].toNat = 32 ∨ s[k].toNat = 9 ∨ s[k].toNat = 10
      · have hq2 : Hid (k + 1 + LX.skipG false (tl s (k + 1)) = k0 + LX.skipG false (tl s k0)) := by
          show _ = _
          rw [← hq.out, skip_blank s k hlt h3]; omega
        by_cases h32 : s[k].toNat = 32
        · have e1 := eqT (c := s[k]) 32 (by omega)
          clear h3 h32
          go_wp2
          go_round
          case rel => exact ⟨k + 1, by omega, by go_num, hq2⟩
          case measure => simp [intOf]; omega
        · have e1 := eqF (c := s[k]) 32 (by omega)
          by_cases h9 : s[k].toNat = 9
          · have e2 := eqT (c := s[k]) 9 (by omega)
            clear h3 h32 h9
            go_wp2
            go_round
            case rel => exact ⟨k + 1, by omega, by go_num, hq2⟩
            case measure => simp [intOf]; omega
          · have e2 := eqF (c := s[k]) 9 (by omega)
            have e3 := eqT (c := s[k]) 10 (by omega)
            clear h3 h32 h9
            go_wp2
            go_round
            case rel => exact ⟨k + 1, by omega, by go_num, hq2⟩
            case measure => simp [intOf]; omega
      · have e1 := eqF (c := s[k]) 32 (by omega)
        have e2 := eqF (c := s[k]) 9 (by omega)
        have e3 := eqF (c := s[k]) 10 (by omega)
        by_cases h47 : s[k].toNat = 47
        · have f1 := neF (c := s[k]) 47 (by omega)
          by_cases h2 : k + 1 < s.size
          · have g2 : decide ((s.size : Int) ≤ (k : Int) + 1) = false := by rw [decide_eq_false_iff_not]; omega
            by_cases hc2 : s[k + 1].toNat = 47
            · have f2 := neF (c := s[k + 1]) 47 (by omega)
              have hq2 : Hid (k + LX.skipG true (tl s k) = k0 + LX.skipG false (tl s k0)) := by
                show _ = _
                rw [← hq.out, skip_com s k hlt h47 h2 hc2]
              have hkn : s[k].toNat ≠ 10 := by omega
              have HKN := Lib.hid hkn
              clear h3 h47 hc2 hkn
              go_wp2
              go_loop [1] (fun i => ∃ j : Nat, k ≤ j ∧ j ≤ s.size ∧ i = .int .i64 j ∧ Hid (j + LX.skipG true (tl s j) = k0 + LX.skipG false (tl s k0))) (fun i => s.size - (intOf i).toNat)
              case atStart => exact ⟨k, Nat.le_refl _, hk, rfl, hq2⟩
              case round =>
                obtain ⟨j, hj1, hj2, rfl, hr⟩ := hrel
                by_cases hjl : j < s.size
                · by_cases h10 : s[j].toNat = 10
                  · have f3 := neF (c := s[j]) 10 (by omega)
                    have hr2 : Hid (j + LX.skipG false (tl s j) = k0 + LX.skipG false (tl s k0)) := by
                      show _ = _
                      rw [← hr.out, skip_out s j hjl h10]
                    have hjk : k < j := by
                      rcases Nat.lt_or_ge k j with h | h
                      · exact h
                      · have : j = k := by omega
                        subst this; exact absurd h10 HKN.out
                    clear h10
                    go_wp2
                    go_round
                    case rel => exact ⟨j, hj2, by go_num, hr2⟩
                    case measure => simp [intOf]; omega
                  · have f3 := neT (c := s[j]) 10 (by omega)
                    have hr2 : Hid (j + 1 + LX.skipG true (tl s (j + 1)) = k0 + LX.skipG false (tl s k0)) := by
                      show _ = _
                      rw [← hr.out, skip_in s j hjl h10]; omega
                    clear h10
                    go_wp2
                    go_round
                    case rel => exact ⟨j + 1, by omega, by omega, by go_num, hr2⟩
                    case measure => simp [intOf]; omega
                · have hjj : decide ((j : Int) < (s.size : Int)) = false := by rw [decide_eq_false_iff_not]; omega
                  have hr2 : Hid (j + LX.skipG false (tl s j) = k0 + LX.skipG false (tl s k0)) := by
                    show _ = _
                    rw [← hr.out, skip_nil s j _ (by omega), skip_nil s j _ (by omega)]
                  go_wp2
                  go_round
                  case rel => exact ⟨j, hj2, by go_num, hr2⟩
                  case measure => simp [intOf]; omega
            · have f2 := neT (c := s[k + 1]) 47 (by omega)
              have hz : Hid (LX.skipG false (tl s k) = 0) := skip_tok s k hlt h3 (fun _ _ => hc2)
              clear h3 h47 hc2
              go_wp2
              go_ret
              exact ⟨ret_int (by have a1 := hq.out; have a2 := hz.out; omega), rfl⟩
          · have g2 : decide ((s.size : Int) ≤ (k : Int) + 1) = true := by rw [decide_eq_true_iff]; omega
            have hz : Hid (LX.skipG false (tl s k) = 0) := skip_tok s k hlt h3 (fun _ h => absurd h h2)
            clear h3 h47
            go_wp2
            go_ret
            exact ⟨ret_int (by have a1 := hq.out; have a2 := hz.out; omega), rfl⟩
        · have f1 := neT (c := s[k]) 47 (by omega)
          have hz : Hid (LX.skipG false (tl s k) = 0) := skip_tok s k hlt h3 (fun h _ => absurd h h47)
          clear h3 h47
          go_wp2
          go_ret
          exact ⟨ret_int (by have a1 := hq.out; have a2 := hz.out; omega), rfl⟩
    · have hz : Hid (LX.skipG false (tl s k) = 0) := skip_nil s k false (by omega)
      go_wp2
      go_ret
      exact ⟨ret_int (by have a1 := hq.out; have a2 := hz.out; omega), rfl⟩
end Go.Proofs.Ytpcepfoebkmbgaa
