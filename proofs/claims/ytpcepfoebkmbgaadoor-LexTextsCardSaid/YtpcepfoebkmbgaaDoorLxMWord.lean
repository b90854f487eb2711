/- The program's scanner: a name or a key. -/
import Derived.Test.YtpcepfoebkmbgaaDoorLxMet
import Derived.Test.YtpcepfoebkmbgaaDoorLxRefW
namespace Go.Proofs.YtpcepfoebkmbgaaDoor
open Go.RowKit
set_option linter.unusedVariables false
theorem goesOnWord_q (c : UInt8) (w : World) : Calls Tryd.prog 54 #[.int .u8 (c.toNat : Int)] w fun e w' => e = .returned (.bool (LX.part c)) ∧ w' = w :=
  (goesOnWord_c c w).mono fun _ _ h => ⟨h.1, h.2.symm⟩
set_option maxHeartbeats 1000000 in
theorem word_c (s : ByteArray) (b p mb : Nat) (sg : Value) (w : World) (hs : s.size ≤ 1000000) (hp : p ≤ s.size) (hS : Scn w b s p p (.map (some mb)) sg) (hK : Keys w mb) (hmb : mb ≠ b) :
    Calls Tryd.prog 42 #[.pointer (some ⟨b, 0, none⟩)] w fun e w' => TokM (LX.wordR (tl s p)) e w' b s p (.map (some mb)) sg ∧ w.grownBy w' (some b) := by
  have hbl := hS.lt
  go_enter Tryd.func42, Tryd.ntmps42
  go_wp2
  go_loopw [5] (fun _ wr => ∃ j : Nat, p ≤ j ∧ j ≤ s.size ∧ Hid (j + wl s j = p + wl s p) ∧ Scn wr b s p j (.map (some mb)) sg ∧ (w.alloc (.cells #[.int .i64 0, .string ⟨#[]⟩, .int .i64 0, .int .i64 0] 32)).grownBy wr (some b)) (fun _ wr => s.size - nextOf wr b)
  case atStart => exact ⟨p, Nat.le_refl _, hp, (show Hid _ from (rfl : p + wl s p = _)), hS.alloc _, only_refl _ _⟩
  case round =>
    obtain ⟨j, hj1, hj2, hq, hS2, hg⟩ := hrel
    have HN := Lib.hid hS2.next
    have HS2 := Lib.hid hS2
    have hl2 := hS2.lt
    obtain ⟨c0, c1, c2, c3, c4, c5⟩ := hS2
    have j0 : (0 : Int) ≤ (j : Int) := by omega
    by_cases hgo : ∃ hlt : j < s.size, LX.part s[j] = true
    · obtain ⟨hjl, hpt⟩ := hgo
      have g1 : decide ((j : Int) < (s.size : Int)) = true := by rw [decide_eq_true_iff]; omega
      have hq2 : Hid (j + 1 + wl s (j + 1) = p + wl s p) := by
        show _ = _
        have := tw_step LX.part s j hjl hpt
        have := hq.out
        unfold wl at *; omega
      go_wp2
      go_quiet ((go_at_call 54; exact Calls.quiet_of_same (goesOnWord_q _ _)))
      go_wp2
      go_roundw
      case rel => exact ⟨j + 1, by omega, by omega, hq2, (HS2.out.drewN _).setNext _ _ (by omega), only_setCell (only_drewN hg _) (.inl rfl) _⟩
      case measure => rw [((HS2.out.drewN _).setNext _ (j + 1) (by omega)).next, HN.out]; omega
    · have hz : Hid (j = p + wl s p) := by
        show _ = _
        have h1 := hq.out
        by_cases hlt : j < s.size
        · have := tw_stop LX.part s j hlt (by simpa using fun h => hgo ⟨hlt, h⟩)
          unfold wl at *; omega
        · have := tw_nil LX.part s j (by omega)
          unfold wl at *; omega
      have HB : Hid (bs (s.extract p j) = (tl s p).takeWhile LX.part) := word_bytes s p j hz.out
      have HX : Hid (s.extract p j = ⟨((tl s p).takeWhile LX.part).toArray⟩) := by show _ = _; rw [← HB.out, ← bs_str]
      have HK1 : Keys wr mb := hK.kept (only_trans (only_alloc (only_refl w b) _) hg) (by simpa using hmb)
      have HK2 := Lib.hid (fun n => show Keys (wr.drewN n) mb from HK1)
      clear HK1
      have hcond : (∃ hlt : j < s.size, LX.part s[j] = false) ∨ ¬ j < s.size := by
        by_cases hlt : j < s.size
        · exact .inl ⟨hlt, by simpa using fun h => hgo ⟨hlt, h⟩⟩
        · exact .inr hlt
      have j2 : (j : Int) ≤ (s.size : Int) := by omega
      have j3 : (p : Int) ≤ (j : Int) := by omega
      have j4 : (0 : Int) ≤ (p : Int) := by omega
      clear hgo
      have hne : w.heap.size ≠ b := by omega
      obtain ⟨hc1, hf1⟩ := only_cells (r := w.heap.size) hg (by simp) hne
      have r0 : wr.cell? ⟨w.heap.size, 0, none⟩ = some (.int .i64 0) := (hc1 0).trans (by simp)
      have r1 : wr.cell? ⟨w.heap.size, 1, none⟩ = some (.string ⟨#[]⟩) := (hc1 1).trans (by simp)
      have r2 : wr.cell? ⟨w.heap.size, 2, none⟩ = some (.int .i64 0) := (hc1 2).trans (by simp)
      have r3 : wr.cell? ⟨w.heap.size, 3, none⟩ = some (.int .i64 0) := (hc1 3).trans (by simp)
      have r4 : ∀ o, wr.frozen? ⟨w.heap.size, o, none⟩ = false := fun o => (hf1 o).trans (by simp)
      have hr5 := hg.size
      have hr6 : w.heap.size < wr.heap.size := by simp at hr5; omega
      clear hc1 hf1 hr5
      by_cases h24 : 24 < wl s p
      · have hr : Hid (LX.wordR (tl s p) = .bad 2) := word_long h24
        have h24' : (24 : Int) < ((j - p : Nat) : Int) := by have := hz.out; omega
        clear h24
        rcases hcond with ⟨hlt, hpt⟩ | hlt
        · have g1 : decide ((j : Int) < (s.size : Int)) = true := by rw [decide_eq_true_iff]; omega
          go_wp2
          go_quiet ((go_at_call 54; exact Calls.quiet_of_same (goesOnWord_q _ _)))
          go_wp2
          go_quiet (fail)
          go_wp2
          exact bodyPost_ret (v := .tuple #[.agg #[.int .i64 0, .string ⟨#[]⟩, .int .i64 0, .int .i64 0], .int .i64 2]) (by simp [results, Tryd.results42, go_sem, r0, r1, r2, r3]) rfl ⟨.bad (q := j) hr.out rfl (by repeat (first | (with_reducible refine Scn.farR _ _ hne _ ?_) | (with_reducible exact HS2.out.drewN _))), (by repeat (first | (with_reducible refine only_setR _ _ (Nat.le_refl _) _ ?_) | (with_reducible exact only_drewN (only_trans (only_alloc (only_refl w b) _) hg) _)))⟩
        · have g1 : decide ((j : Int) < (s.size : Int)) = false := by rw [decide_eq_false_iff_not]; omega
          go_wp2
          go_quiet ((go_at_call 54; exact Calls.quiet_of_same (goesOnWord_q _ _)))
          go_wp2
          go_quiet (fail)
          go_wp2
          exact bodyPost_ret (v := .tuple #[.agg #[.int .i64 0, .string ⟨#[]⟩, .int .i64 0, .int .i64 0], .int .i64 2]) (by simp [results, Tryd.results42, go_sem, r0, r1, r2, r3]) rfl ⟨.bad (q := j) hr.out rfl (by repeat (first | (with_reducible refine Scn.farR _ _ hne _ ?_) | (with_reducible exact HS2.out.drewN _))), (by repeat (first | (with_reducible refine only_setR _ _ (Nat.le_refl _) _ ?_) | (with_reducible exact only_drewN (only_trans (only_alloc (only_refl w b) _) hg) _)))⟩
      · have h24' : ¬ (24 : Int) < ((j - p : Nat) : Int) := by have := hz.out; omega
        by_cases hin : (tl s p).takeWhile LX.part ∈ LX.keyL
        · have hr : Hid (LX.wordR (tl s p) = .good 4 ((tl s p).takeWhile LX.part) 0 (wl s p)) := word_key h24 hin
          have HD : Hid (decide (bs (s.extract p j) ∈ LX.keyL) = true) := by show _ = _; rw [HB.out]; simpa using hin
          clear h24 hin
          rcases hcond with ⟨hlt, hpt⟩ | hlt
          · have g1 : decide ((j : Int) < (s.size : Int)) = true := by rw [decide_eq_true_iff]; omega
            go_wp2
            go_quiet ((go_at_call 54; exact Calls.quiet_of_same (goesOnWord_q _ _)))
            go_wp2
            go_quiet (fail)
            go_wp2_with (at_lookup; refine wpList_lookup_keys (by rfl) _ _ (by rfl) mb (by rfl) (HK2.out _) (s.extract p j) (by rfl) (by unfold maxLen; simp; omega) true HD.out ?_)
            exact bodyPost_ret (v := .tuple #[.agg #[.int .i64 4, .string (s.extract p j), .int .i64 0, .int .i64 0], .int .i64 0]) (by simp [results, Tryd.results42, go_sem, r0, r1, r2, r3]) rfl ⟨.good hr.out rfl HX.out rfl hz.out (by repeat (first | (with_reducible refine Scn.farR _ _ hne _ ?_) | (with_reducible exact HS2.out.drewN _))), (by repeat (first | (with_reducible refine only_setR _ _ (Nat.le_refl _) _ ?_) | (with_reducible exact only_drewN (only_trans (only_alloc (only_refl w b) _) hg) _)))⟩
          · have g1 : decide ((j : Int) < (s.size : Int)) = false := by rw [decide_eq_false_iff_not]; omega
            go_wp2
            go_quiet ((go_at_call 54; exact Calls.quiet_of_same (goesOnWord_q _ _)))
            go_wp2
            go_quiet (fail)
            go_wp2_with (at_lookup; refine wpList_lookup_keys (by rfl) _ _ (by rfl) mb (by rfl) (HK2.out _) (s.extract p j) (by rfl) (by unfold maxLen; simp; omega) true HD.out ?_)
            exact bodyPost_ret (v := .tuple #[.agg #[.int .i64 4, .string (s.extract p j), .int .i64 0, .int .i64 0], .int .i64 0]) (by simp [results, Tryd.results42, go_sem, r0, r1, r2, r3]) rfl ⟨.good hr.out rfl HX.out rfl hz.out (by repeat (first | (with_reducible refine Scn.farR _ _ hne _ ?_) | (with_reducible exact HS2.out.drewN _))), (by repeat (first | (with_reducible refine only_setR _ _ (Nat.le_refl _) _ ?_) | (with_reducible exact only_drewN (only_trans (only_alloc (only_refl w b) _) hg) _)))⟩
        · have hr : Hid (LX.wordR (tl s p) = .good 1 ((tl s p).takeWhile LX.part) 0 (wl s p)) := word_name h24 hin
          have HD : Hid (decide (bs (s.extract p j) ∈ LX.keyL) = false) := by show _ = _; rw [HB.out]; simpa using hin
          clear h24 hin
          rcases hcond with ⟨hlt, hpt⟩ | hlt
          · have g1 : decide ((j : Int) < (s.size : Int)) = true := by rw [decide_eq_true_iff]; omega
            go_wp2
            go_quiet ((go_at_call 54; exact Calls.quiet_of_same (goesOnWord_q _ _)))
            go_wp2
            go_quiet (fail)
            go_wp2_with (at_lookup; refine wpList_lookup_keys (by rfl) _ _ (by rfl) mb (by rfl) (HK2.out _) (s.extract p j) (by rfl) (by unfold maxLen; simp; omega) false HD.out ?_)
            exact bodyPost_ret (v := .tuple #[.agg #[.int .i64 1, .string (s.extract p j), .int .i64 0, .int .i64 0], .int .i64 0]) (by simp [results, Tryd.results42, go_sem, r0, r1, r2, r3]) rfl ⟨.good hr.out rfl HX.out rfl hz.out (by repeat (first | (with_reducible refine Scn.farR _ _ hne _ ?_) | (with_reducible exact HS2.out.drewN _))), (by repeat (first | (with_reducible refine only_setR _ _ (Nat.le_refl _) _ ?_) | (with_reducible exact only_drewN (only_trans (only_alloc (only_refl w b) _) hg) _)))⟩
          · have g1 : decide ((j : Int) < (s.size : Int)) = false := by rw [decide_eq_false_iff_not]; omega
            go_wp2
            go_quiet ((go_at_call 54; exact Calls.quiet_of_same (goesOnWord_q _ _)))
            go_wp2
            go_quiet (fail)
            go_wp2_with (at_lookup; refine wpList_lookup_keys (by rfl) _ _ (by rfl) mb (by rfl) (HK2.out _) (s.extract p j) (by rfl) (by unfold maxLen; simp; omega) false HD.out ?_)
            exact bodyPost_ret (v := .tuple #[.agg #[.int .i64 1, .string (s.extract p j), .int .i64 0, .int .i64 0], .int .i64 0]) (by simp [results, Tryd.results42, go_sem, r0, r1, r2, r3]) rfl ⟨.good hr.out rfl HX.out rfl hz.out (by repeat (first | (with_reducible refine Scn.farR _ _ hne _ ?_) | (with_reducible exact HS2.out.drewN _))), (by repeat (first | (with_reducible refine only_setR _ _ (Nat.le_refl _) _ ?_) | (with_reducible exact only_drewN (only_trans (only_alloc (only_refl w b) _) hg) _)))⟩
end Go.Proofs.YtpcepfoebkmbgaaDoor
