/- The program's scanner: numbers. -/
import Derived.Test.YtpcepfoebkmbgaaDoorLxPart
import Derived.Test.YtpcepfoebkmbgaaDoorLxRefN
import Derived.WalkLawsBesides
import Derived.Deep.RegionHeld3
import Derived.Deep.DrawnRows
import Derived.IntWalk
namespace Go.Proofs.YtpcepfoebkmbgaaDoor
open Go.RowKit
set_option linter.unusedVariables false
theorem digit_q (c : UInt8) (w : World) : Calls Tryd.prog 61 #[.int .u8 (c.toNat : Int)] w fun e w' => e = .returned (.int .i64 ((LX.nib c : Nat) : Int)) ∧ w' = w :=
  (digit_c c w).mono fun _ _ h => ⟨h.1, h.2.symm⟩
theorem min_step (M v b d : Nat) (hb : 1 ≤ b) : min (min v (M + 1) * b + d) (M + 1) = min (v * b + d) (M + 1) := by
  rcases Nat.le_total v (M + 1) with h | h
  · rw [Nat.min_eq_left h]
  · rw [Nat.min_eq_right h]
    have h1 : (M + 1) * 1 ≤ (M + 1) * b := Nat.mul_le_mul_left _ hb
    have h2 : v * 1 ≤ v * b := Nat.mul_le_mul_left _ hb
    omega
attribute [local go_sem ↓] Go.wp_at_zero Go.wp_at_succ
set_option maxHeartbeats 1000000 in
theorem number10_c (s : ByteArray) (b p f : Nat) (km sg : Value) (w : World) (hs : s.size ≤ 1000000) (hpf : p ≤ f) (hf : f ≤ s.size) (hS : Scn w b s p f km sg) :
    Calls Tryd.prog 60 #[.pointer (some ⟨b, 0, none⟩), .int .i64 10, .int .i64 2147483647] w fun e w' => TokM (LX.numR 10 2147483647 (f - p) (tl s f)) e w' b s p km sg ∧ w.grownBy w' (some b) := by
  have hl := hS.lt
  have hne : w.heap.size ≠ b := by omega
  go_enter Tryd.func60, Tryd.ntmps60
  go_wp2
  go_loopw [8] (fun n wr => ∃ (j v : Nat), f ≤ j ∧ j ≤ s.size ∧ n = .int .i64 (v : Int) ∧ v ≤ 2147483647 + 1 ∧ Hid (v = min (pv 10 s f j) (2147483647 + 1)) ∧ Hid (j + dl 10 s j = f + dl 10 s f) ∧ Scn wr b s p j km sg ∧ (w.alloc (.cells #[.int .i64 0, .string ⟨#[]⟩, .int .i64 0, .int .i64 0] 32)).grownBy wr (some b)) (fun _ wr => s.size - nextOf wr b)
  case atStart => exact ⟨f, 0, Nat.le_refl _, hf, rfl, by omega, (show Hid _ from by show 0 = _; rw [pv_zero]; rfl), (show Hid _ from (rfl : f + dl 10 s f = _)), hS.alloc _, only_refl _ _⟩
  case round =>
    obtain ⟨j, v, hj1, hj2, rfl, hvm, hv, hq, hS2, hg⟩ := hrel
    have HN := Lib.hid hS2.next
    have HS2 := Lib.hid hS2
    have hl2 := hS2.lt
    obtain ⟨c0, c1, c2, c3, c4, c5⟩ := hS2
    have j0 : (0 : Int) ≤ (j : Int) := by omega
    have hvi : (v : Int) ≤ 2147483647 + 1 := by omega
    have hv0 : (0 : Int) ≤ (v : Int) := by omega
    by_cases hgo : ∃ hlt : j < s.size, LX.nib s[j] < 10
    · obtain ⟨hjl, hd⟩ := hgo
      have g1 : decide ((j : Int) < (s.size : Int)) = true := by rw [decide_eq_true_iff]; omega
      have hd0 : (0 : Int) ≤ ((LX.nib s[j] : Nat) : Int) := by omega
      have hd1 : ((LX.nib s[j] : Nat) : Int) < 10 := by omega
      have hq2 : Hid (j + 1 + dl 10 s (j + 1) = f + dl 10 s f) := by
        show _ = _
        have := dl_step 10 s j hjl hd
        have := hq.out; omega
      have hv2 : Hid (min (v * 10 + LX.nib s[j]) (2147483647 + 1) = min (pv 10 s f (j + 1)) (2147483647 + 1)) := by
        show _ = _
        rw [hv.out, min_step _ _ _ _ (by omega), pv_step 10 s f j hj1 hjl]
      clear hd
      go_wp2
      go_quiet ((go_at_call 61; exact Calls.quiet_of_same (digit_q _ _)))
      go_wp2
      have e1 : IntKind.i64.wrap ((v : Int) * 10) = (v : Int) * 10 := IntWalk.i64_in _ (by omega)
      have e2 : IntKind.i64.wrap ((v : Int) * 10 + ((LX.nib s[j] : Nat) : Int)) = (v : Int) * 10 + ((LX.nib s[j] : Nat) : Int) := IntWalk.i64_in _ (by omega)
      have e3 : IntKind.i64.wrap 2147483648 = 2147483648 := IntWalk.i64_in _ (by omega)
      have j1 : (j : Int) < (s.size : Int) := by omega
      go_region_held3 (fun w' => w'.cell? ⟨b, 0, none⟩ = some (.string s) ∧ w'.cell? ⟨b, 2, none⟩ = some (.int .i64 (j : Int))) (first | exact ⟨c0, c2⟩ | assumption | go_keep) (first | (go_at_call 61; refine (digit_c _ _).mono ?_; rintro e w' ⟨rfl, rfl⟩))
      clear e1 e2 e3
      go_wp2
      go_roundw
      case rel => exact ⟨j + 1, min (v * 10 + LX.nib s[j]) 2147483648, by omega, by omega, by congr 1; split <;> omega, by omega, hv2, hq2, (HS2.out.drewN _).setNext _ _ (by omega), only_setCell (only_drewN hg _) (.inl rfl) _⟩
      case measure => rw [((HS2.out.drewN _).setNext _ (j + 1) (by omega)).next, HN.out]; omega
    · have hz : Hid (j = f + dl 10 s f) := by
        show _ = _
        have h1 := hq.out
        by_cases hlt : j < s.size
        · have := dl_stop 10 s j hlt (fun h => hgo ⟨hlt, h⟩); omega
        · have := dl_nil 10 s j (by omega); omega
      have HP : Hid (pv 10 s f j = LX.val 10 (LX.digs 10 (tl s f))) := pv_all 10 s f j hz.out
      obtain ⟨r0, r1, r2, r3, r4, hr6⟩ := res_of (r := w.heap.size) rfl hg hne
      have hcond : (∃ hlt : j < s.size, 10 ≤ ((LX.nib s[j] : Nat) : Int)) ∨ ¬ j < s.size := by
        by_cases hlt : j < s.size
        · have h1 : ¬ LX.nib s[j] < 10 := fun h => hgo ⟨hlt, h⟩
          exact .inl ⟨hlt, by omega⟩
        · exact .inr hlt
      clear hgo
      by_cases hm : 2147483647 < v
      · have hr : Hid (LX.numR 10 2147483647 (f - p) (tl s f) = .bad 22) := by
          apply num_bad; rw [← HP.out]; have := hv.out; omega
        have hmi : (2147483647 : Int) < (v : Int) := by omega
        rcases hcond with ⟨hlt, hd⟩ | hlt
        · have g1 : decide ((j : Int) < (s.size : Int)) = true := by rw [decide_eq_true_iff]; omega
          go_wp2
          go_quiet ((go_at_call 61; exact Calls.quiet_of_same (digit_q _ _)))
          go_wp2
          exact bodyPost_ret (v := .tuple #[.agg #[.int .i64 0, .string ⟨#[]⟩, .int .i64 0, .int .i64 0], .int .i64 22]) (by simp [results, Tryd.results60, go_sem, r0, r1, r2, r3]) rfl ⟨.bad (q := j) hr.out rfl (by repeat (first | (with_reducible refine Scn.farR _ _ hne _ ?_) | (with_reducible exact HS2.out.drewN _))), (by repeat (first | (with_reducible refine only_setR _ _ (Nat.le_refl _) _ ?_) | (with_reducible exact only_drewN (only_trans (only_alloc (only_refl w b) _) hg) _)))⟩
        · have g1 : decide ((j : Int) < (s.size : Int)) = false := by rw [decide_eq_false_iff_not]; omega
          go_wp2
          go_quiet ((go_at_call 61; exact Calls.quiet_of_same (digit_q _ _)))
          go_wp2
          exact bodyPost_ret (v := .tuple #[.agg #[.int .i64 0, .string ⟨#[]⟩, .int .i64 0, .int .i64 0], .int .i64 22]) (by simp [results, Tryd.results60, go_sem, r0, r1, r2, r3]) rfl ⟨.bad (q := j) hr.out rfl (by repeat (first | (with_reducible refine Scn.farR _ _ hne _ ?_) | (with_reducible exact HS2.out.drewN _))), (by repeat (first | (with_reducible refine only_setR _ _ (Nat.le_refl _) _ ?_) | (with_reducible exact only_drewN (only_trans (only_alloc (only_refl w b) _) hg) _)))⟩
      · have hvv : Hid (LX.val 10 (LX.digs 10 (tl s f)) = v) := by show _ = _; rw [← HP.out]; have := hv.out; omega
        have hr : Hid (LX.numR 10 2147483647 (f - p) (tl s f) = .good 2 [] (LX.w32 (LX.val 10 (LX.digs 10 (tl s f)))) (f - p + (LX.digs 10 (tl s f)).length)) := by
          apply num_good; have := hvv.out; omega
        have hdl : Hid ((LX.digs 10 (tl s f)).length = dl 10 s f) := rfl
        have hmi : ¬ (2147483647 : Int) < (v : Int) := by omega
        rcases hcond with ⟨hlt, hd⟩ | hlt
        · have g1 : decide ((j : Int) < (s.size : Int)) = true := by rw [decide_eq_true_iff]; omega
          go_wp2
          go_quiet ((go_at_call 61; exact Calls.quiet_of_same (digit_q _ _)))
          go_wp2
          exact bodyPost_ret (v := .tuple #[.agg #[.int .i64 2, .string ⟨#[]⟩, .int .i64 (v : Int), .int .i64 0], .int .i64 0]) (by simp [results, Tryd.results60, go_sem, r0, r1, r2, r3]) rfl ⟨.good hr.out rfl rfl (by rw [hvv.out]; unfold LX.w32; split <;> omega) (by have := hz.out; have := hdl.out; omega : j = p + (f - p + (LX.digs 10 (tl s f)).length)) (by repeat (first | (with_reducible refine Scn.farR _ _ hne _ ?_) | (with_reducible exact HS2.out.drewN _))), (by repeat (first | (with_reducible refine only_setR _ _ (Nat.le_refl _) _ ?_) | (with_reducible exact only_drewN (only_trans (only_alloc (only_refl w b) _) hg) _)))⟩
        · have g1 : decide ((j : Int) < (s.size : Int)) = false := by rw [decide_eq_false_iff_not]; omega
          go_wp2
          go_quiet ((go_at_call 61; exact Calls.quiet_of_same (digit_q _ _)))
          go_wp2
          exact bodyPost_ret (v := .tuple #[.agg #[.int .i64 2, .string ⟨#[]⟩, .int .i64 (v : Int), .int .i64 0], .int .i64 0]) (by simp [results, Tryd.results60, go_sem, r0, r1, r2, r3]) rfl ⟨.good hr.out rfl rfl (by rw [hvv.out]; unfold LX.w32; split <;> omega) (by have := hz.out; have := hdl.out; omega : j = p + (f - p + (LX.digs 10 (tl s f)).length)) (by repeat (first | (with_reducible refine Scn.farR _ _ hne _ ?_) | (with_reducible exact HS2.out.drewN _))), (by repeat (first | (with_reducible refine only_setR _ _ (Nat.le_refl _) _ ?_) | (with_reducible exact only_drewN (only_trans (only_alloc (only_refl w b) _) hg) _)))⟩
set_option maxHeartbeats 1000000 in
theorem number16_c (s : ByteArray) (b p f : Nat) (km sg : Value) (w : World) (hs : s.size ≤ 1000000) (hpf : p ≤ f) (hf : f ≤ s.size) (hS : Scn w b s p f km sg) :
    Calls Tryd.prog 60 #[.pointer (some ⟨b, 0, none⟩), .int .i64 16, .int .i64 4294967295] w fun e w' => TokM (LX.numR 16 4294967295 (f - p) (tl s f)) e w' b s p km sg ∧ w.grownBy w' (some b) := by
  have hl := hS.lt
  have hne : w.heap.size ≠ b := by omega
  go_enter Tryd.func60, Tryd.ntmps60
  go_wp2
  go_loopw [8] (fun n wr => ∃ (j v : Nat), f ≤ j ∧ j ≤ s.size ∧ n = .int .i64 (v : Int) ∧ v ≤ 4294967295 + 1 ∧ Hid (v = min (pv 16 s f j) (4294967295 + 1)) ∧ Hid (j + dl 16 s j = f + dl 16 s f) ∧ Scn wr b s p j km sg ∧ (w.alloc (.cells #[.int .i64 0, .string ⟨#[]⟩, .int .i64 0, .int .i64 0] 32)).grownBy wr (some b)) (fun _ wr => s.size - nextOf wr b)
  case atStart => exact ⟨f, 0, Nat.le_refl _, hf, rfl, by omega, (show Hid _ from by show 0 = _; rw [pv_zero]; rfl), (show Hid _ from (rfl : f + dl 16 s f = _)), hS.alloc _, only_refl _ _⟩
  case round =>
    obtain ⟨j, v, hj1, hj2, rfl, hvm, hv, hq, hS2, hg⟩ := hrel
    have HN := Lib.hid hS2.next
    have HS2 := Lib.hid hS2
    have hl2 := hS2.lt
    obtain ⟨c0, c1, c2, c3, c4, c5⟩ := hS2
    have j0 : (0 : Int) ≤ (j : Int) := by omega
    have hvi : (v : Int) ≤ 4294967295 + 1 := by omega
    have hv0 : (0 : Int) ≤ (v : Int) := by omega
    by_cases hgo : ∃ hlt : j < s.size, LX.nib s[j] < 16
    · obtain ⟨hjl, hd⟩ := hgo
      have g1 : decide ((j : Int) < (s.size : Int)) = true := by rw [decide_eq_true_iff]; omega
      have hd0 : (0 : Int) ≤ ((LX.nib s[j] : Nat) : Int) := by omega
      have hd1 : ((LX.nib s[j] : Nat) : Int) < 16 := by omega
      have hq2 : Hid (j + 1 + dl 16 s (j + 1) = f + dl 16 s f) := by
        show _ = _
        have := dl_step 16 s j hjl hd
        have := hq.out; omega
      have hv2 : Hid (min (v * 16 + LX.nib s[j]) (4294967295 + 1) = min (pv 16 s f (j + 1)) (4294967295 + 1)) := by
        show _ = _
        rw [hv.out, min_step _ _ _ _ (by omega), pv_step 16 s f j hj1 hjl]
      clear hd
      go_wp2
      go_quiet ((go_at_call 61; exact Calls.quiet_of_same (digit_q _ _)))
      go_wp2
      have e1 : IntKind.i64.wrap ((v : Int) * 16) = (v : Int) * 16 := IntWalk.i64_in _ (by omega)
      have e2 : IntKind.i64.wrap ((v : Int) * 16 + ((LX.nib s[j] : Nat) : Int)) = (v : Int) * 16 + ((LX.nib s[j] : Nat) : Int) := IntWalk.i64_in _ (by omega)
      have e3 : IntKind.i64.wrap 4294967296 = 4294967296 := IntWalk.i64_in _ (by omega)
      have j1 : (j : Int) < (s.size : Int) := by omega
      go_region_held3 (fun w' => w'.cell? ⟨b, 0, none⟩ = some (.string s) ∧ w'.cell? ⟨b, 2, none⟩ = some (.int .i64 (j : Int))) (first | exact ⟨c0, c2⟩ | assumption | go_keep) (first | (go_at_call 61; refine (digit_c _ _).mono ?_; rintro e w' ⟨rfl, rfl⟩))
      clear e1 e2 e3
      go_wp2
      go_roundw
      case rel => exact ⟨j + 1, min (v * 16 + LX.nib s[j]) 4294967296, by omega, by omega, by congr 1; split <;> omega, by omega, hv2, hq2, (HS2.out.drewN _).setNext _ _ (by omega), only_setCell (only_drewN hg _) (.inl rfl) _⟩
      case measure => rw [((HS2.out.drewN _).setNext _ (j + 1) (by omega)).next, HN.out]; omega
    · have hz : Hid (j = f + dl 16 s f) := by
        show _ = _
        have h1 := hq.out
        by_cases hlt : j < s.size
        · have := dl_stop 16 s j hlt (fun h => hgo ⟨hlt, h⟩); omega
        · have := dl_nil 16 s j (by omega); omega
      have HP : Hid (pv 16 s f j = LX.val 16 (LX.digs 16 (tl s f))) := pv_all 16 s f j hz.out
      obtain ⟨r0, r1, r2, r3, r4, hr6⟩ := res_of (r := w.heap.size) rfl hg hne
      have hcond : (∃ hlt : j < s.size, 16 ≤ ((LX.nib s[j] : Nat) : Int)) ∨ ¬ j < s.size := by
        by_cases hlt : j < s.size
        · have h1 : ¬ LX.nib s[j] < 16 := fun h => hgo ⟨hlt, h⟩
          exact .inl ⟨hlt, by omega⟩
        · exact .inr hlt
      clear hgo
      by_cases hm : 4294967295 < v
      · have hr : Hid (LX.numR 16 4294967295 (f - p) (tl s f) = .bad 22) := by
          apply num_bad; rw [← HP.out]; have := hv.out; omega
        have hmi : (4294967295 : Int) < (v : Int) := by omega
        rcases hcond with ⟨hlt, hd⟩ | hlt
        · have g1 : decide ((j : Int) < (s.size : Int)) = true := by rw [decide_eq_true_iff]; omega
          go_wp2
          go_quiet ((go_at_call 61; exact Calls.quiet_of_same (digit_q _ _)))
          go_wp2
          exact bodyPost_ret (v := .tuple #[.agg #[.int .i64 0, .string ⟨#[]⟩, .int .i64 0, .int .i64 0], .int .i64 22]) (by simp [results, Tryd.results60, go_sem, r0, r1, r2, r3]) rfl ⟨.bad (q := j) hr.out rfl (by repeat (first | (with_reducible refine Scn.farR _ _ hne _ ?_) | (with_reducible exact HS2.out.drewN _))), (by repeat (first | (with_reducible refine only_setR _ _ (Nat.le_refl _) _ ?_) | (with_reducible exact only_drewN (only_trans (only_alloc (only_refl w b) _) hg) _)))⟩
        · have g1 : decide ((j : Int) < (s.size : Int)) = false := by rw [decide_eq_false_iff_not]; omega
          go_wp2
          go_quiet ((go_at_call 61; exact Calls.quiet_of_same (digit_q _ _)))
          go_wp2
          exact bodyPost_ret (v := .tuple #[.agg #[.int .i64 0, .string ⟨#[]⟩, .int .i64 0, .int .i64 0], .int .i64 22]) (by simp [results, Tryd.results60, go_sem, r0, r1, r2, r3]) rfl ⟨.bad (q := j) hr.out rfl (by repeat (first | (with_reducible refine Scn.farR _ _ hne _ ?_) | (with_reducible exact HS2.out.drewN _))), (by repeat (first | (with_reducible refine only_setR _ _ (Nat.le_refl _) _ ?_) | (with_reducible exact only_drewN (only_trans (only_alloc (only_refl w b) _) hg) _)))⟩
      · have hvv : Hid (LX.val 16 (LX.digs 16 (tl s f)) = v) := by show _ = _; rw [← HP.out]; have := hv.out; omega
        have hr : Hid (LX.numR 16 4294967295 (f - p) (tl s f) = .good 2 [] (LX.w32 (LX.val 16 (LX.digs 16 (tl s f)))) (f - p + (LX.digs 16 (tl s f)).length)) := by
          apply num_good; have := hvv.out; omega
        have hdl : Hid ((LX.digs 16 (tl s f)).length = dl 16 s f) := rfl
        have hmi : ¬ (4294967295 : Int) < (v : Int) := by omega
        by_cases hbig : 2147483648 ≤ (v : Int)
        · have ew : IntKind.i32.wrap (v : Int) = (v : Int) - 4294967296 := by rw [IntKind.wrap_i32]; omega
          rcases hcond with ⟨hlt, hd⟩ | hlt
          · have g1 : decide ((j : Int) < (s.size : Int)) = true := by rw [decide_eq_true_iff]; omega
            go_wp2
            go_quiet ((go_at_call 61; exact Calls.quiet_of_same (digit_q _ _)))
            go_wp2
            exact bodyPost_ret (v := .tuple #[.agg #[.int .i64 2, .string ⟨#[]⟩, .int .i64 ((v : Int) - 4294967296), .int .i64 0], .int .i64 0]) (by simp [results, Tryd.results60, go_sem, r0, r1, r2, r3]) rfl ⟨.good hr.out rfl rfl (by rw [hvv.out]; unfold LX.w32; split <;> omega) (by have := hz.out; have := hdl.out; omega : j = p + (f - p + (LX.digs 16 (tl s f)).length)) (by repeat (first | (with_reducible refine Scn.farR _ _ hne _ ?_) | (with_reducible exact HS2.out.drewN _))), (by repeat (first | (with_reducible refine only_setR _ _ (Nat.le_refl _) _ ?_) | (with_reducible exact only_drewN (only_trans (only_alloc (only_refl w b) _) hg) _)))⟩
          · have g1 : decide ((j : Int) < (s.size : Int)) = false := by rw [decide_eq_false_iff_not]; omega
            go_wp2
            go_quiet ((go_at_call 61; exact Calls.quiet_of_same (digit_q _ _)))
            go_wp2
            exact bodyPost_ret (v := .tuple #[.agg #[.int .i64 2, .string ⟨#[]⟩, .int .i64 ((v : Int) - 4294967296), .int .i64 0], .int .i64 0]) (by simp [results, Tryd.results60, go_sem, r0, r1, r2, r3]) rfl ⟨.good hr.out rfl rfl (by rw [hvv.out]; unfold LX.w32; split <;> omega) (by have := hz.out; have := hdl.out; omega : j = p + (f - p + (LX.digs 16 (tl s f)).length)) (by repeat (first | (with_reducible refine Scn.farR _ _ hne _ ?_) | (with_reducible exact HS2.out.drewN _))), (by repeat (first | (with_reducible refine only_setR _ _ (Nat.le_refl _) _ ?_) | (with_reducible exact only_drewN (only_trans (only_alloc (only_refl w b) _) hg) _)))⟩
        · have hsm : (v : Int) ≤ 2147483647 := by omega
          clear hbig
          rcases hcond with ⟨hlt, hd⟩ | hlt
          · have g1 : decide ((j : Int) < (s.size : Int)) = true := by rw [decide_eq_true_iff]; omega
            go_wp2
            go_quiet ((go_at_call 61; exact Calls.quiet_of_same (digit_q _ _)))
            go_wp2
            exact bodyPost_ret (v := .tuple #[.agg #[.int .i64 2, .string ⟨#[]⟩, .int .i64 (v : Int), .int .i64 0], .int .i64 0]) (by simp [results, Tryd.results60, go_sem, r0, r1, r2, r3]) rfl ⟨.good hr.out rfl rfl (by rw [hvv.out]; unfold LX.w32; split <;> omega) (by have := hz.out; have := hdl.out; omega : j = p + (f - p + (LX.digs 16 (tl s f)).length)) (by repeat (first | (with_reducible refine Scn.farR _ _ hne _ ?_) | (with_reducible exact HS2.out.drewN _))), (by repeat (first | (with_reducible refine only_setR _ _ (Nat.le_refl _) _ ?_) | (with_reducible exact only_drewN (only_trans (only_alloc (only_refl w b) _) hg) _)))⟩
          · have g1 : decide ((j : Int) < (s.size : Int)) = false := by rw [decide_eq_false_iff_not]; omega
            go_wp2
            go_quiet ((go_at_call 61; exact Calls.quiet_of_same (digit_q _ _)))
            go_wp2
            exact bodyPost_ret (v := .tuple #[.agg #[.int .i64 2, .string ⟨#[]⟩, .int .i64 (v : Int), .int .i64 0], .int .i64 0]) (by simp [results, Tryd.results60, go_sem, r0, r1, r2, r3]) rfl ⟨.good hr.out rfl rfl (by rw [hvv.out]; unfold LX.w32; split <;> omega) (by have := hz.out; have := hdl.out; omega : j = p + (f - p + (LX.digs 16 (tl s f)).length)) (by repeat (first | (with_reducible refine Scn.farR _ _ hne _ ?_) | (with_reducible exact HS2.out.drewN _))), (by repeat (first | (with_reducible refine only_setR _ _ (Nat.le_refl _) _ ?_) | (with_reducible exact only_drewN (only_trans (only_alloc (only_refl w b) _) hg) _)))⟩
end Go.Proofs.YtpcepfoebkmbgaaDoor
