/- The program's scanner: characters. -/
import Derived.Test.YtpcepfoebkmbgaaDoorLxPart
namespace Go.Proofs.YtpcepfoebkmbgaaDoor
open Go.RowKit
set_option linter.unusedVariables false
theorem part_no (qt : UInt8) (m : Int) (hm : (qt.toNat : Int) = m) (s : ByteArray) (b p q : Nat) (km sg : Value) (w : World) (hs : s.size ≤ 1000000) (hq : q ≤ s.size) (hS : Scn w b s p q km sg) (h : LX.letter qt (tl s q) = none) :
    Calls Tryd.prog 62 #[.pointer (some ⟨b, 0, none⟩), .int .u8 m] w fun e w' => ∃ (a : Int) (q' : Nat), e = .returned (.tuple #[.int .u8 a, .bool false]) ∧ Scn w' b s p q' km sg ∧ w.grownBy w' (some b) := by
  refine (part_c qt m hm s b p q km sg w hs hq hS).mono ?_
  rintro e w' ⟨h1, h2⟩
  unfold PartR at h1; rw [h] at h1
  obtain ⟨⟨a, rfl⟩, q', h3⟩ := h1
  exact ⟨a, q', rfl, h3, h2⟩
theorem part_yes (qt : UInt8) (m : Int) (hm : (qt.toNat : Int) = m) (s : ByteArray) (b p q : Nat) (km sg : Value) (w : World) (hs : s.size ≤ 1000000) (hq : q ≤ s.size) (hS : Scn w b s p q km sg) (d : UInt8) (n q2 : Nat) (h : LX.letter qt (tl s q) = some (d, n)) (hq2 : q + n = q2) :
    Calls Tryd.prog 62 #[.pointer (some ⟨b, 0, none⟩), .int .u8 m] w fun e w' => e = .returned (.tuple #[.int .u8 (d.toNat : Int), .bool true]) ∧ Scn w' b s p q2 km sg ∧ w.grownBy w' (some b) := by
  refine (part_c qt m hm s b p q km sg w hs hq hS).mono ?_
  rintro e w' ⟨h1, h2⟩
  unfold PartR at h1; rw [h] at h1
  subst hq2
  exact ⟨h1.1, h1.2, h2⟩
set_option maxHeartbeats 1000000 in
theorem character_c (s : ByteArray) (b p : Nat) (km sg : Value) (w : World) (hs : s.size ≤ 1000000) (hp : p < s.size) (hS : Scn w b s p p km sg) :
    Calls Tryd.prog 46 #[.pointer (some ⟨b, 0, none⟩)] w fun e w' => TokM (LX.charR (tl s (p + 1))) e w' b s p km sg ∧ w.grownBy w' (some b) := by
  have hl := hS.lt
  have HS := Lib.hid hS
  obtain ⟨c0, c1, c2, c3, c4, c5⟩ := hS
  have k0 : (0 : Int) ≤ (p : Int) := by omega
  have hne : w.heap.size ≠ b := by omega
  have HS1 : Hid (∀ o, Scn ((w.setCell ⟨b, 2, none⟩ (.int .i64 ((p : Int) + 1))).alloc o) b s p (p + 1) km sg) := fun o => (HS.out.setNext _ _ (by omega)).alloc o
  cases hlt : LX.letter 39 (tl s (p + 1)) with
  | none =>
    have hr : Hid (LX.charR (tl s (p + 1)) = .bad 21) := char_none hlt
    have HC := Lib.hid (fun (W : World) (h : Scn W b s p (p + 1) km sg) => part_no 39 39 rfl s b p (p + 1) km sg W hs (by omega) h hlt)
    clear hlt
    go_enter Tryd.func46, Tryd.ntmps46
    go_wp2_with (go_at_call 62; refine (HC.out _ (HS1.out _)).mono ?_; rintro e w2 ⟨a, q', rfl, hS2, hg2⟩; have HS2 := Lib.hid hS2; have hl2 := hS2.lt; obtain ⟨c0, c1, c2, c3, c4, c5⟩ := hS2; obtain ⟨r0, r1, r2, r3, r4, hr6⟩ := res_of (r := w.heap.size) (by simp [World.setCell]) (hg2) hne)
    go_quiet (fail)
    go_wp2
    exact bodyPost_ret (v := .tuple #[.agg #[.int .i64 0, .string ⟨#[]⟩, .int .i64 0, .int .i64 0], .int .i64 21]) (by simp [results, Tryd.results46, go_sem, r0, r1, r2, r3]) rfl ⟨.bad (q := q') hr.out rfl (by repeat (first | (with_reducible refine Scn.farR _ _ hne _ ?_) | (with_reducible exact HS2.out.drewN _))), (by repeat (first | (with_reducible refine only_setR _ _ (Nat.le_refl _) _ ?_) | (with_reducible exact only_drewN (only_trans (only_alloc (only_setCell (only_refl w b) (.inl rfl) _) _) hg2) _)))⟩
  | some x =>
    obtain ⟨d, n⟩ := x
    obtain ⟨hn1, hn2⟩ := letter_fits hlt
    obtain ⟨j, hj⟩ : ∃ j, p + 1 + n = j := ⟨_, rfl⟩
    rw [hj] at hn2
    have HJ := Lib.hid hj
    have HC := Lib.hid (fun (W : World) (h : Scn W b s p (p + 1) km sg) => part_yes 39 39 rfl s b p (p + 1) km sg W hs (by omega) h d n j hlt hj)
    have j0 : (0 : Int) ≤ (j : Int) := by omega
    obtain ⟨hd1, hd2⟩ := u8_bd d
    clear hj
    by_cases h39 : ∃ hjl : j < s.size, s[j].toNat = 39
    · obtain ⟨hjl, h39⟩ := h39
      have hr : Hid (LX.charR (tl s (p + 1)) = .good 2 [] d.toNat (n + 2)) := by
        have h0 := HJ.out
        subst h0
        exact char_good hlt hjl h39
      have f1 := neF (c := s[j]) 39 (by omega)
      have g1 := intEqF (a := (j : Int)) (b := (s.size : Int)) (by omega)
      have g2 : (j : Int) < (s.size : Int) := by omega
      clear hlt h39
      go_enter Tryd.func46, Tryd.ntmps46
      go_wp2_with (go_at_call 62; refine (HC.out _ (HS1.out _)).mono ?_; rintro e w2 ⟨rfl, hS2, hg2⟩; have HS2 := Lib.hid hS2; have hl2 := hS2.lt; obtain ⟨c0, c1, c2, c3, c4, c5⟩ := hS2; obtain ⟨r0, r1, r2, r3, r4, hr6⟩ := res_of (r := w.heap.size) (by simp [World.setCell]) (hg2) hne)
      go_quiet (fail)
      go_wp2
      exact bodyPost_ret (v := .tuple #[.agg #[.int .i64 2, .string ⟨#[]⟩, .int .i64 (d.toNat : Int), .int .i64 0], .int .i64 0]) (by simp [results, Tryd.results46, go_sem, r0, r1, r2, r3]) rfl ⟨.good hr.out rfl rfl rfl (by have := HJ.out; omega : j + 1 = p + (n + 2)) (by repeat (first | (with_reducible refine Scn.farR _ _ hne _ ?_) | (with_reducible exact ((HS2.out.drewN _).setNext _ _ (Int.natCast_succ _).symm)))), (by repeat (first | (with_reducible refine only_setR _ _ (Nat.le_refl _) _ ?_) | (with_reducible exact only_setCell (only_drewN (only_trans (only_alloc (only_setCell (only_refl w b) (.inl rfl) _) _) hg2) _) (.inl rfl) _)))⟩
    · have hr : Hid (LX.charR (tl s (p + 1)) = .bad 21) := by
        have h0 := HJ.out
        subst h0
        exact char_bad hlt (fun h h2 => h39 ⟨h, h2⟩)
      have hcond : (∃ hjl : j < s.size, ((s[j].toNat : Int) != 39) = true) ∨ ¬ j < s.size := by
        by_cases hjl : j < s.size
        · exact .inl ⟨hjl, neT (c := s[j]) 39 (fun h => h39 ⟨hjl, by omega⟩)⟩
        · exact .inr hjl
      clear hlt h39
      rcases hcond with ⟨hjl, f1⟩ | hjl
      · have g1 := intEqF (a := (j : Int)) (b := (s.size : Int)) (by omega)
        have g2 : (j : Int) < (s.size : Int) := by omega
        go_enter Tryd.func46, Tryd.ntmps46
        go_wp2_with (go_at_call 62; refine (HC.out _ (HS1.out _)).mono ?_; rintro e w2 ⟨rfl, hS2, hg2⟩; have HS2 := Lib.hid hS2; have hl2 := hS2.lt; obtain ⟨c0, c1, c2, c3, c4, c5⟩ := hS2; obtain ⟨r0, r1, r2, r3, r4, hr6⟩ := res_of (r := w.heap.size) (by simp [World.setCell]) (hg2) hne)
        go_quiet (fail)
        go_wp2
        exact bodyPost_ret (v := .tuple #[.agg #[.int .i64 0, .string ⟨#[]⟩, .int .i64 0, .int .i64 0], .int .i64 21]) (by simp [results, Tryd.results46, go_sem, r0, r1, r2, r3]) rfl ⟨.bad (q := j) hr.out rfl (by repeat (first | (with_reducible refine Scn.farR _ _ hne _ ?_) | (with_reducible exact HS2.out.drewN _))), (by repeat (first | (with_reducible refine only_setR _ _ (Nat.le_refl _) _ ?_) | (with_reducible exact only_drewN (only_trans (only_alloc (only_setCell (only_refl w b) (.inl rfl) _) _) hg2) _)))⟩
      · have g1 := intEqT (a := (j : Int)) (b := (s.size : Int)) (by omega)
        go_enter Tryd.func46, Tryd.ntmps46
        go_wp2_with (go_at_call 62; refine (HC.out _ (HS1.out _)).mono ?_; rintro e w2 ⟨rfl, hS2, hg2⟩; have HS2 := Lib.hid hS2; have hl2 := hS2.lt; obtain ⟨c0, c1, c2, c3, c4, c5⟩ := hS2; obtain ⟨r0, r1, r2, r3, r4, hr6⟩ := res_of (r := w.heap.size) (by simp [World.setCell]) (hg2) hne)
        go_quiet (fail)
        go_wp2
        exact bodyPost_ret (v := .tuple #[.agg #[.int .i64 0, .string ⟨#[]⟩, .int .i64 0, .int .i64 0], .int .i64 21]) (by simp [results, Tryd.results46, go_sem, r0, r1, r2, r3]) rfl ⟨.bad (q := j) hr.out rfl (by repeat (first | (with_reducible refine Scn.farR _ _ hne _ ?_) | (with_reducible exact HS2.out.drewN _))), (by repeat (first | (with_reducible refine only_setR _ _ (Nat.le_refl _) _ ?_) | (with_reducible exact only_drewN (only_trans (only_alloc (only_setCell (only_refl w b) (.inl rfl) _) _) hg2) _)))⟩
end Go.Proofs.YtpcepfoebkmbgaaDoor
