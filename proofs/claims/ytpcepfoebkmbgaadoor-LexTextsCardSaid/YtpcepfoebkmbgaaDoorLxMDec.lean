/- The program's scanner: numbers of both bases. -/
import Derived.Test.YtpcepfoebkmbgaaDoorLxMNum
import Derived.Test.YtpcepfoebkmbgaaDoorLxRefX
namespace Go.Proofs.YtpcepfoebkmbgaaDoor
open Go.RowKit
set_option linter.unusedVariables false
theorem TokM.world {r : LX.Res} {e : Ending} {w w' : World} {b : Nat} {s : ByteArray} {p : Nat} {km sg : Value} (h : TokM r e w b s p km sg) (hw : ∀ q, Scn w b s p q km sg → Scn w' b s p q km sg) : TokM r e w' b s p km sg := by
  unfold TokM at h ⊢
  split at h
  · exact ⟨h.1, hw _ h.2⟩
  · obtain ⟨h1, q, h2⟩ := h
    exact ⟨h1, q, hw _ h2⟩
set_option maxHeartbeats 1000000 in
theorem decimal_c (s : ByteArray) (b p : Nat) (km sg : Value) (w : World) (hs : s.size ≤ 1000000) (hp : p ≤ s.size) (hS : Scn w b s p p km sg) :
    Calls Tryd.prog 44 #[.pointer (some ⟨b, 0, none⟩)] w fun e w' => TokM (LX.numR 10 2147483647 0 (tl s p)) e w' b s p km sg ∧ w.grownBy w' (some b) := by
  have hl := hS.lt
  have hne : w.heap.size ≠ b := by omega
  have HC := Lib.hid (fun (W : World) (h : Scn W b s p p km sg) => number10_c s b p p km sg W hs (Nat.le_refl _) hp h)
  rw [Nat.sub_self] at HC
  go_enter Tryd.func44, Tryd.ntmps44
  go_wp2_with (go_at_call 60; refine (HC.out _ (hS.alloc _)).mono ?_; rintro e w2 ⟨ht, hg2⟩; obtain ⟨⟨a, y, c, x, rfl⟩, q2, hS2⟩ := ht.form; have HT := Lib.hid ht; clear ht; obtain ⟨r0, r1, r2, r3, r4, hr6⟩ := res_of (r := w.heap.size) rfl (hg2) hne)
  exact bodyPost_ret (v := .tuple #[.agg #[.int .i64 a, .string y, .int .i64 c, .int .i64 0], .int .i64 x]) (by simp [results, Tryd.results44, go_sem, r0, r1, r2, r3]) rfl ⟨HT.out.world (fun q h => (by repeat (first | (with_reducible refine Scn.farR _ _ hne _ ?_) | (with_reducible exact h)))), (by repeat (first | (with_reducible refine only_setR _ _ (Nat.le_refl _) _ ?_) | (with_reducible exact only_trans (only_alloc (only_refl w b) _) hg2)))⟩
theorem digit_val {c : UInt8} {n : Nat} (h : LX.nib c = n) (w : World) : Calls Tryd.prog 61 #[.int .u8 (c.toNat : Int)] w fun e w' => e = .returned (.int .i64 (n : Int)) ∧ w' = w := by
  subst h; exact digit_q c w
set_option maxHeartbeats 1000000 in
theorem hexadecimal_c (s : ByteArray) (b p : Nat) (km sg : Value) (w : World) (hs : s.size ≤ 1000000) (hp : p < s.size) (hS : Scn w b s p p km sg) :
    Calls Tryd.prog 45 #[.pointer (some ⟨b, 0, none⟩)] w fun e w' => TokM (LX.hexR (tl s (p + 1))) e w' b s p km sg ∧ w.grownBy w' (some b) := by
  have hl := hS.lt
  have HS := Lib.hid hS
  obtain ⟨c0, c1, c2, c3, c4, c5⟩ := hS
  have k0 : (0 : Int) ≤ (p : Int) := by omega
  have k1 : (0 : Int) ≤ (p : Int) + 1 := by omega
  have k3 : ((p : Int) + 1).toNat = p + 1 := by omega
  have hne : w.heap.size ≠ b := by omega
  have HS1 : Hid (∀ o n, Scn (((w.setCell ⟨b, 2, none⟩ (.int .i64 ((p : Int) + 1))).alloc o).drewN n) b s p (p + 1) km sg) := fun o n => ((HS.out.setNext _ _ (by omega)).alloc o).drewN n
  have HX0 : Hid (∀ T, (w.setCell ⟨b, 2, none⟩ (.int .i64 ((p : Int) + 1))).alloc (.cells #[.int .i64 0, .string ⟨#[]⟩, .int .i64 0, .int .i64 0] T) = (w.setCell ⟨b, 2, none⟩ (.int .i64 ((p : Int) + 1))).alloc (.cells #[.int .i64 0, .string ⟨#[]⟩, .int .i64 0, .int .i64 0] T)) := fun _ => rfl
  by_cases hx : ∃ hk1 : p + 1 < s.size, LX.nib s[p + 1] < 16
  · obtain ⟨hk1, hx⟩ := hx
    have hr : Hid (LX.hexR (tl s (p + 1)) = LX.numR 16 4294967295 (p + 1 - p) (tl s (p + 1))) := by show _ = _; rw [hex_some hk1 hx, show p + 1 - p = 1 by omega]
    have HC := Lib.hid (fun (W : World) (h : Scn W b s p (p + 1) km sg) => number16_c s b p (p + 1) km sg W hs (by omega) (by omega) h)
    have g1 := intEqF (a := (p : Int) + 1) (b := (s.size : Int)) (by omega)
    have g2 : (p : Int) + 1 < (s.size : Int) := by omega
    have g3 : (((LX.nib s[p + 1] : Nat) : Int) == 16) = false := by simp; omega
    clear hx
    go_enter Tryd.func45, Tryd.ntmps45
    go_wp2
    go_quiet ((go_at_call 61; exact Calls.quiet_of_same (digit_q _ _)))
    go_wp2_with (go_at_call 60; refine (HC.out _ (HS1.out _ _)).mono ?_; rintro e w2 ⟨ht, hg2⟩; obtain ⟨⟨a, y, c, x, rfl⟩, q2, hS2⟩ := ht.form; have HT := Lib.hid ht; clear ht; obtain ⟨r0, r1, r2, r3, r4, hr6⟩ := res_of (r := w.heap.size) (by simp [World.setCell]) (only_trans (only_drewN (only_refl _ b) _) hg2) hne)
    exact bodyPost_ret (v := .tuple #[.agg #[.int .i64 a, .string y, .int .i64 c, .int .i64 0], .int .i64 x]) (by simp [results, Tryd.results45, go_sem, r0, r1, r2, r3]) rfl ⟨(hr.out ▸ HT.out).world (fun q h => (by repeat (first | (with_reducible refine Scn.farR _ _ hne _ ?_) | (with_reducible exact h)))), (by repeat (first | (with_reducible refine only_setR _ _ (Nat.le_refl _) _ ?_) | (with_reducible exact only_trans (only_drewN (only_alloc (only_setCell (only_refl w b) (.inl rfl) _) _) _) hg2)))⟩
  · have hr : Hid (LX.hexR (tl s (p + 1)) = .bad 20) := hex_none (fun hk1 h => hx ⟨hk1, h⟩)
    by_cases hk1 : p + 1 < s.size
    · have hn16 : LX.nib s[p + 1] = 16 := by have := nib_le s[p + 1]; have : ¬ LX.nib s[p + 1] < 16 := fun h => hx ⟨hk1, h⟩; omega
      have HD := Lib.hid (fun W => digit_val hn16 W)
      have g1 := intEqF (a := (p : Int) + 1) (b := (s.size : Int)) (by omega)
      have g2 : (p : Int) + 1 < (s.size : Int) := by omega
      clear hx hn16
      go_enter Tryd.func45, Tryd.ntmps45
      go_wp2
      go_quiet ((go_at_call 61; exact Calls.quiet_of_same (HD.out _)))
      go_wp2
      exact bodyPost_ret (v := .tuple #[.agg #[.int .i64 0, .string ⟨#[]⟩, .int .i64 0, .int .i64 0], .int .i64 20]) (by simp [results, Tryd.results45, go_sem]) rfl ⟨.bad (q := p + 1) hr.out rfl (by repeat (first | (with_reducible refine Scn.farR _ _ hne _ ?_) | (with_reducible exact HS1.out _ _))), (by repeat (first | (with_reducible refine only_setR _ _ (Nat.le_refl _) _ ?_) | (with_reducible exact only_drewN (only_alloc (only_setCell (only_refl w b) (.inl rfl) _) _) _)))⟩
    · have g1 := intEqT (a := (p : Int) + 1) (b := (s.size : Int)) (by omega)
      clear hx
      go_enter Tryd.func45, Tryd.ntmps45
      go_wp2
      go_quiet (fail)
      go_wp2
      exact bodyPost_ret (v := .tuple #[.agg #[.int .i64 0, .string ⟨#[]⟩, .int .i64 0, .int .i64 0], .int .i64 20]) (by simp [results, Tryd.results45, go_sem]) rfl ⟨.bad (q := p + 1) hr.out rfl (by repeat (first | (with_reducible refine Scn.farR _ _ hne _ ?_) | (with_reducible exact HS1.out _ _))), (by repeat (first | (with_reducible refine only_setR _ _ (Nat.le_refl _) _ ?_) | (with_reducible exact only_drewN (only_alloc (only_setCell (only_refl w b) (.inl rfl) _) _) _)))⟩
end Go.Proofs.YtpcepfoebkmbgaaDoor
