/- The document's answer: the next token. -/
import Derived.Test.YtpcepfoebkmbgaaLxRefS
import Derived.Test.YtpcepfoebkmbgaaLxRefT
namespace Go.Proofs.Ytpcepfoebkmbgaa
open Go.RowKit
set_option linter.unusedVariables false
theorem TokR.form {r : LX.Res} {k : Nat} {e : Ending} (h : TokR r k e) : ∃ (a : Int) (b : ByteArray) (c d x y : Int), e = .returned (.tuple #[.agg #[.int .i64 a, .string b, .int .i64 c, .int .i64 d], .int .i64 x, .int .i64 y]) := by
  unfold TokR at h
  split at h <;> exact ⟨_, _, _, _, _, _, h⟩
theorem tok_word {c : UInt8} {r : LX.Bs} (h : LX.small c = true) : LX.tok c r = LX.wordR (c :: r) := by unfold LX.tok; rw [if_pos h]
theorem tok_dec {c : UInt8} {r : LX.Bs} (h : LX.small c = false) (h2 : LX.isDig c = true) : LX.tok c r = LX.numR 10 2147483647 0 (c :: r) := by unfold LX.tok; rw [if_neg (by simp [h]), if_pos h2]
theorem tok_hex {c : UInt8} {r : LX.Bs} (h : LX.small c = false) (h2 : LX.isDig c = false) (h3 : c.toNat = 35) : LX.tok c r = LX.hexR r := by unfold LX.tok; rw [if_neg (by simp [h]), if_neg (by simp [h2]), if_pos h3]
theorem tok_char {c : UInt8} {r : LX.Bs} (h : LX.small c = false) (h2 : LX.isDig c = false) (h3 : c.toNat = 39) : LX.tok c r = LX.charR r := by unfold LX.tok; rw [if_neg (by simp [h]), if_neg (by simp [h2]), if_neg (by omega), if_pos h3]
theorem tok_text {c : UInt8} {r : LX.Bs} (h : LX.small c = false) (h2 : LX.isDig c = false) (h3 : c.toNat = 34) : LX.tok c r = LX.textR r := by unfold LX.tok; rw [if_neg (by simp [h]), if_neg (by simp [h2]), if_neg (by omega), if_neg (by omega), if_pos h3]
theorem tok_sign {c : UInt8} {r : LX.Bs} (h : LX.small c = false) (h2 : LX.isDig c = false) (h3 : c.toNat ≠ 35 ∧ c.toNat ≠ 39 ∧ c.toNat ≠ 34) : LX.tok c r = LX.signR (c :: r) := by unfold LX.tok; rw [if_neg (by simp [h]), if_neg (by simp [h2]), if_neg h3.1, if_neg h3.2.1, if_neg h3.2.2]
theorem hex_none {s : ByteArray} {k : Nat} (h : ∀ hk : k < s.size, ¬ LX.nib s[k] < 16) : LX.hexR (tl s k) = .bad 20 := by
  by_cases hk : k < s.size
  · rw [tl_cons s k hk]; simp only [LX.hexR]; rw [if_neg (h hk)]
  · rw [tl_nil s k (by omega)]; rfl
theorem hex_some {s : ByteArray} {k : Nat} (hk : k < s.size) (h : LX.nib s[k] < 16) : LX.hexR (tl s k) = LX.numR 16 4294967295 1 (tl s k) := by
  conv => lhs; rw [tl_cons s k hk]
  simp only [LX.hexR]; rw [if_pos h, ← tl_cons s k hk]
set_option maxHeartbeats 2000000 in
theorem refNext_c (s : ByteArray) (k : Nat) (w : World) (hs : s.size ≤ 1000000) (hk : k < s.size) :
    Calls Try.prog 28 #[.string s, .int .i64 (k : Nat)] w fun e w' => TokR (LX.tok s[k] (tl s (k + 1))) k e ∧ Below w.heap.size w w' := by
  have htl := tl_cons s k hk
  cases hsm : LX.small s[k] with
  | true =>
    have hr : Hid (LX.tok s[k] (tl s (k + 1)) = LX.wordR (tl s k)) := by show _ = _; rw [tok_word hsm, htl]
    clear htl
    have HC := Lib.hid (fun W => refWord_c s k W hs (Nat.le_of_lt hk))
    go_enter Try.func28, Try.ntmps28
    go_wp2_with (first | (go_at_call 31; refine (refSmall_c _ _).mono ?_; rintro e w' ⟨rfl, rfl⟩) | (go_at_call 47; refine (refDigit_c _ _).mono ?_; rintro e w' ⟨rfl, rfl⟩) | (go_at_call 49; refine (refNib_c _ _).mono ?_; rintro e w' ⟨rfl, rfl⟩) | (go_at_call 46; refine (HC.out _).mono ?_; rintro e w1 ⟨ht, hb1⟩; obtain ⟨a, b, c, d, x, y, rfl⟩ := ht.form; have HT := Lib.hid ht; clear ht; obtain ⟨hc1, hf1⟩ := bcell hb1; have r10 : w1.cell? ⟨w.heap.size, 0, none⟩ = some (.int .i64 0) := (hc1 w.heap.size 0 (by simp; try omega)).trans (by simp); have r11 : w1.cell? ⟨w.heap.size, 1, none⟩ = some (.string ⟨#[]⟩) := (hc1 w.heap.size 1 (by simp; try omega)).trans (by simp); have r12 : w1.cell? ⟨w.heap.size, 2, none⟩ = some (.int .i64 0) := (hc1 w.heap.size 2 (by simp; try omega)).trans (by simp); have r13 : w1.cell? ⟨w.heap.size, 3, none⟩ = some (.int .i64 0) := (hc1 w.heap.size 3 (by simp; try omega)).trans (by simp); have r14 : ∀ o, w1.frozen? ⟨w.heap.size, o, none⟩ = false := fun o => (hf1 w.heap.size o (by simp; try omega)).trans (by simp); clear hc1 hf1))
    exact bodyPost_ret (v := .tuple #[.agg #[.int .i64 a, .string b, .int .i64 c, .int .i64 d], .int .i64 x, .int .i64 y]) (by simp [results, Try.results28, go_sem, r10, r11, r12, r13]) rfl ⟨by rw [hr.out]; exact HT.out, (by repeat (first | exact Below.refl _ _ | exact below_alloc _ _ | refine Below.setCell ?_ (by simp) _ | refine below_back (by assumption) ?_ | refine Below.drew ?_ | refine below_drewN ?_ _ | refine Below.alloc ?_ (by first | exact Nat.le_refl _ | (simp; done) | (simp; omega)) _))⟩
  | false =>
    cases hdg : LX.isDig s[k] with
    | true =>
      have hr : Hid (LX.tok s[k] (tl s (k + 1)) = LX.numR 10 2147483647 (k - k) (tl s k)) := by show _ = _; rw [tok_dec hsm hdg, htl, Nat.sub_self]
      clear htl
      have HC := Lib.hid (fun W => refNum10_c s k k W hs (Nat.le_refl _) (Nat.le_of_lt hk))
      go_enter Try.func28, Try.ntmps28
      go_wp2_with (first | (go_at_call 31; refine (refSmall_c _ _).mono ?_; rintro e w' ⟨rfl, rfl⟩) | (go_at_call 47; refine (refDigit_c _ _).mono ?_; rintro e w' ⟨rfl, rfl⟩) | (go_at_call 49; refine (refNib_c _ _).mono ?_; rintro e w' ⟨rfl, rfl⟩) | (go_at_call 48; refine (HC.out _).mono ?_; rintro e w1 ⟨ht, hb1⟩; obtain ⟨a, b, c, d, x, y, rfl⟩ := ht.form; have HT := Lib.hid ht; clear ht; obtain ⟨hc1, hf1⟩ := bcell hb1; have r10 : w1.cell? ⟨w.heap.size, 0, none⟩ = some (.int .i64 0) := (hc1 w.heap.size 0 (by simp; try omega)).trans (by simp); have r11 : w1.cell? ⟨w.heap.size, 1, none⟩ = some (.string ⟨#[]⟩) := (hc1 w.heap.size 1 (by simp; try omega)).trans (by simp); have r12 : w1.cell? ⟨w.heap.size, 2, none⟩ = some (.int .i64 0) := (hc1 w.heap.size 2 (by simp; try omega)).trans (by simp); have r13 : w1.cell? ⟨w.heap.size, 3, none⟩ = some (.int .i64 0) := (hc1 w.heap.size 3 (by simp; try omega)).trans (by simp); have r14 : ∀ o, w1.frozen? ⟨w.heap.size, o, none⟩ = false := fun o => (hf1 w.heap.size o (by simp; try omega)).trans (by simp); clear hc1 hf1))
      exact bodyPost_ret (v := .tuple #[.agg #[.int .i64 a, .string b, .int .i64 c, .int .i64 d], .int .i64 x, .int .i64 y]) (by simp [results, Try.results28, go_sem, r10, r11, r12, r13]) rfl ⟨by rw [hr.out]; exact HT.out, (by repeat (first | exact Below.refl _ _ | exact below_alloc _ _ | refine Below.setCell ?_ (by simp) _ | refine below_back (by assumption) ?_ | refine Below.drew ?_ | refine below_drewN ?_ _ | refine Below.alloc ?_ (by first | exact Nat.le_refl _ | (simp; done) | (simp; omega)) _))⟩
    | false =>
      by_cases h35 : s[k].toNat = 35
      · have t35 := eqT (c := s[k]) 35 (by omega)
        by_cases hx : ∃ hk1 : k + 1 < s.size, LX.nib s[k + 1] < 16
        · obtain ⟨hk1, hx⟩ := hx
          have g1 : decide ((s.size : Int) ≤ (k : Int) + 1) = false := by rw [decide_eq_false_iff_not]; omega
          have hni := nibI_val (c := s[k + 1]) (by omega)
          have hnn : 0 ≤ nibI s[k + 1] := by omega
          have e1 : k + 1 - k = 1 := by omega
          have hr : Hid (LX.tok s[k] (tl s (k + 1)) = LX.numR 16 4294967295 (k + 1 - k) (tl s (k + 1))) := by show _ = _; rw [tok_hex hsm hdg h35, hex_some hk1 hx, e1]
          clear htl e1 hni hx h35
          have HC := Lib.hid (fun W => refNum16_c s k (k + 1) W hs (by omega) (by omega))
          rw [show (((k + 1 : Nat)) : Int) = (k : Int) + 1 from by omega] at HC
          go_enter Try.func28, Try.ntmps28
          go_wp2_with (first | (go_at_call 31; refine (refSmall_c _ _).mono ?_; rintro e w' ⟨rfl, rfl⟩) | (go_at_call 47; refine (refDigit_c _ _).mono ?_; rintro e w' ⟨rfl, rfl⟩) | (go_at_call 49; refine (refNib_c _ _).mono ?_; rintro e w' ⟨rfl, rfl⟩) | (go_at_call 48; refine (HC.out _).mono ?_; rintro e w1 ⟨ht, hb1⟩; obtain ⟨a, b, c, d, x, y, rfl⟩ := ht.form; have HT := Lib.hid ht; clear ht; obtain ⟨hc1, hf1⟩ := bcell hb1; have r10 : w1.cell? ⟨w.heap.size, 0, none⟩ = some (.int .i64 0) := (hc1 w.heap.size 0 (by simp; try omega)).trans (by simp); have r11 : w1.cell? ⟨w.heap.size, 1, none⟩ = some (.string ⟨#[]⟩) := (hc1 w.heap.size 1 (by simp; try omega)).trans (by simp); have r12 : w1.cell? ⟨w.heap.size, 2, none⟩ = some (.int .i64 0) := (hc1 w.heap.size 2 (by simp; try omega)).trans (by simp); have r13 : w1.cell? ⟨w.heap.size, 3, none⟩ = some (.int .i64 0) := (hc1 w.heap.size 3 (by simp; try omega)).trans (by simp); have r14 : ∀ o, w1.frozen? ⟨w.heap.size, o, none⟩ = false := fun o => (hf1 w.heap.size o (by simp; try omega)).trans (by simp); clear hc1 hf1))
          exact bodyPost_ret (v := .tuple #[.agg #[.int .i64 a, .string b, .int .i64 c, .int .i64 d], .int .i64 x, .int .i64 y]) (by simp [results, Try.results28, go_sem, r10, r11, r12, r13]) rfl ⟨by rw [hr.out]; exact HT.out, (by repeat (first | exact Below.refl _ _ | exact below_alloc _ _ | refine Below.setCell ?_ (by simp) _ | refine below_back (by assumption) ?_ | refine Below.drew ?_ | refine below_drewN ?_ _ | refine Below.alloc ?_ (by first | exact Nat.le_refl _ | (simp; done) | (simp; omega)) _))⟩
        · have hr : Hid (LX.tok s[k] (tl s (k + 1)) = .bad 20) := by show _ = _; rw [tok_hex hsm hdg h35, hex_none (fun hk1 h => hx ⟨hk1, h⟩)]
          by_cases hk1 : k + 1 < s.size
          · have hng : nibI s[k + 1] < 0 := by
              have : LX.nib s[k + 1] = 16 := by have := nib_le s[k + 1]; have : ¬ LX.nib s[k + 1] < 16 := fun h => hx ⟨hk1, h⟩; omega
              rw [nibI_neg this]; omega
            have g1 : decide ((s.size : Int) ≤ (k : Int) + 1) = false := by rw [decide_eq_false_iff_not]; omega
            clear htl hx h35
            go_enter Try.func28, Try.ntmps28
            go_wp2_with (first | (go_at_call 31; refine (refSmall_c _ _).mono ?_; rintro e w' ⟨rfl, rfl⟩) | (go_at_call 47; refine (refDigit_c _ _).mono ?_; rintro e w' ⟨rfl, rfl⟩) | (go_at_call 49; refine (refNib_c _ _).mono ?_; rintro e w' ⟨rfl, rfl⟩))
            exact bodyPost_ret (v := .tuple #[.agg #[.int .i64 0, .string ⟨#[]⟩, .int .i64 0, .int .i64 0], .int .i64 (k : Int), .int .i64 20]) (by simp [results, Try.results28, go_sem]) rfl ⟨.bad hr.out rfl rfl, (by repeat (first | exact Below.refl _ _ | exact below_alloc _ _ | refine Below.setCell ?_ (by simp) _ | refine below_back (by assumption) ?_ | refine Below.drew ?_ | refine below_drewN ?_ _ | refine Below.alloc ?_ (by first | exact Nat.le_refl _ | (simp; done) | (simp; omega)) _))⟩
          · have g1 : decide ((s.size : Int) ≤ (k : Int) + 1) = true := by rw [decide_eq_true_iff]; omega
            clear htl hx h35
            go_enter Try.func28, Try.ntmps28
            go_wp2_with (first | (go_at_call 31; refine (refSmall_c _ _).mono ?_; rintro e w' ⟨rfl, rfl⟩) | (go_at_call 47; refine (refDigit_c _ _).mono ?_; rintro e w' ⟨rfl, rfl⟩) | (go_at_call 49; refine (refNib_c _ _).mono ?_; rintro e w' ⟨rfl, rfl⟩))
            exact bodyPost_ret (v := .tuple #[.agg #[.int .i64 0, .string ⟨#[]⟩, .int .i64 0, .int .i64 0], .int .i64 (k : Int), .int .i64 20]) (by simp [results, Try.results28, go_sem]) rfl ⟨.bad hr.out rfl rfl, (by repeat (first | exact Below.refl _ _ | exact below_alloc _ _ | refine Below.setCell ?_ (by simp) _ | refine below_back (by assumption) ?_ | refine Below.drew ?_ | refine below_drewN ?_ _ | refine Below.alloc ?_ (by first | exact Nat.le_refl _ | (simp; done) | (simp; omega)) _))⟩
      have f35 := eqF (c := s[k]) 35 (by omega)
      by_cases h34 : s[k].toNat = 34
      · have t34 := eqT (c := s[k]) 34 (by omega)
        have hr : Hid (LX.tok s[k] (tl s (k + 1)) = LX.textR (tl s (k + 1))) := by show _ = _; exact tok_text hsm hdg h34
        clear htl h34 h35
        have HC := Lib.hid (fun W => refText_c s k W hs hk)
        go_enter Try.func28, Try.ntmps28
        go_wp2_with (first | (go_at_call 31; refine (refSmall_c _ _).mono ?_; rintro e w' ⟨rfl, rfl⟩) | (go_at_call 47; refine (refDigit_c _ _).mono ?_; rintro e w' ⟨rfl, rfl⟩) | (go_at_call 49; refine (refNib_c _ _).mono ?_; rintro e w' ⟨rfl, rfl⟩) | (go_at_call 50; refine (HC.out _).mono ?_; rintro e w1 ⟨ht, hb1⟩; obtain ⟨a, b, c, d, x, y, rfl⟩ := ht.form; have HT := Lib.hid ht; clear ht; obtain ⟨hc1, hf1⟩ := bcell hb1; have r10 : w1.cell? ⟨w.heap.size, 0, none⟩ = some (.int .i64 0) := (hc1 w.heap.size 0 (by simp; try omega)).trans (by simp); have r11 : w1.cell? ⟨w.heap.size, 1, none⟩ = some (.string ⟨#[]⟩) := (hc1 w.heap.size 1 (by simp; try omega)).trans (by simp); have r12 : w1.cell? ⟨w.heap.size, 2, none⟩ = some (.int .i64 0) := (hc1 w.heap.size 2 (by simp; try omega)).trans (by simp); have r13 : w1.cell? ⟨w.heap.size, 3, none⟩ = some (.int .i64 0) := (hc1 w.heap.size 3 (by simp; try omega)).trans (by simp); have r14 : ∀ o, w1.frozen? ⟨w.heap.size, o, none⟩ = false := fun o => (hf1 w.heap.size o (by simp; try omega)).trans (by simp); clear hc1 hf1))
        exact bodyPost_ret (v := .tuple #[.agg #[.int .i64 a, .string b, .int .i64 c, .int .i64 d], .int .i64 x, .int .i64 y]) (by simp [results, Try.results28, go_sem, r10, r11, r12, r13]) rfl ⟨by rw [hr.out]; exact HT.out, (by repeat (first | exact Below.refl _ _ | exact below_alloc _ _ | refine Below.setCell ?_ (by simp) _ | refine below_back (by assumption) ?_ | refine Below.drew ?_ | refine below_drewN ?_ _ | refine Below.alloc ?_ (by first | exact Nat.le_refl _ | (simp; done) | (simp; omega)) _))⟩
      have f34 := eqF (c := s[k]) 34 (by omega)
      by_cases h39 : s[k].toNat = 39
      · have t39 := eqT (c := s[k]) 39 (by omega)
        have hr : Hid (LX.tok s[k] (tl s (k + 1)) = LX.charR (tl s (k + 1))) := by show _ = _; exact tok_char hsm hdg h39
        clear htl h34 h35 h39
        have HC := Lib.hid (fun W => refChar_c s k W hs hk)
        go_enter Try.func28, Try.ntmps28
        go_wp2_with (first | (go_at_call 31; refine (refSmall_c _ _).mono ?_; rintro e w' ⟨rfl, rfl⟩) | (go_at_call 47; refine (refDigit_c _ _).mono ?_; rintro e w' ⟨rfl, rfl⟩) | (go_at_call 49; refine (refNib_c _ _).mono ?_; rintro e w' ⟨rfl, rfl⟩) | (go_at_call 51; refine (HC.out _).mono ?_; rintro e w1 ⟨ht, hb1⟩; obtain ⟨a, b, c, d, x, y, rfl⟩ := ht.form; have HT := Lib.hid ht; clear ht; obtain ⟨hc1, hf1⟩ := bcell hb1; have r10 : w1.cell? ⟨w.heap.size, 0, none⟩ = some (.int .i64 0) := (hc1 w.heap.size 0 (by simp; try omega)).trans (by simp); have r11 : w1.cell? ⟨w.heap.size, 1, none⟩ = some (.string ⟨#[]⟩) := (hc1 w.heap.size 1 (by simp; try omega)).trans (by simp); have r12 : w1.cell? ⟨w.heap.size, 2, none⟩ = some (.int .i64 0) := (hc1 w.heap.size 2 (by simp; try omega)).trans (by simp); have r13 : w1.cell? ⟨w.heap.size, 3, none⟩ = some (.int .i64 0) := (hc1 w.heap.size 3 (by simp; try omega)).trans (by simp); have r14 : ∀ o, w1.frozen? ⟨w.heap.size, o, none⟩ = false := fun o => (hf1 w.heap.size o (by simp; try omega)).trans (by simp); clear hc1 hf1))
        exact bodyPost_ret (v := .tuple #[.agg #[.int .i64 a, .string b, .int .i64 c, .int .i64 d], .int .i64 x, .int .i64 y]) (by simp [results, Try.results28, go_sem, r10, r11, r12, r13]) rfl ⟨by rw [hr.out]; exact HT.out, (by repeat (first | exact Below.refl _ _ | exact below_alloc _ _ | refine Below.setCell ?_ (by simp) _ | refine below_back (by assumption) ?_ | refine Below.drew ?_ | refine below_drewN ?_ _ | refine Below.alloc ?_ (by first | exact Nat.le_refl _ | (simp; done) | (simp; omega)) _))⟩
      · have f39 := eqF (c := s[k]) 39 (by omega)
        have hr : Hid (LX.tok s[k] (tl s (k + 1)) = LX.signR (tl s k)) := by show _ = _; rw [tok_sign hsm hdg ⟨h35, h39, h34⟩, htl]
        clear htl h34 h35 h39
        have HC := Lib.hid (fun W => refSign_c s k W hs hk)
        go_enter Try.func28, Try.ntmps28
        go_wp2_with (first | (go_at_call 31; refine (refSmall_c _ _).mono ?_; rintro e w' ⟨rfl, rfl⟩) | (go_at_call 47; refine (refDigit_c _ _).mono ?_; rintro e w' ⟨rfl, rfl⟩) | (go_at_call 49; refine (refNib_c _ _).mono ?_; rintro e w' ⟨rfl, rfl⟩) | (go_at_call 52; refine (HC.out _).mono ?_; rintro e w1 ⟨ht, hb1⟩; obtain ⟨a, b, c, d, x, y, rfl⟩ := ht.form; have HT := Lib.hid ht; clear ht; obtain ⟨hc1, hf1⟩ := bcell hb1; have r10 : w1.cell? ⟨w.heap.size, 0, none⟩ = some (.int .i64 0) := (hc1 w.heap.size 0 (by simp; try omega)).trans (by simp); have r11 : w1.cell? ⟨w.heap.size, 1, none⟩ = some (.string ⟨#[]⟩) := (hc1 w.heap.size 1 (by simp; try omega)).trans (by simp); have r12 : w1.cell? ⟨w.heap.size, 2, none⟩ = some (.int .i64 0) := (hc1 w.heap.size 2 (by simp; try omega)).trans (by simp); have r13 : w1.cell? ⟨w.heap.size, 3, none⟩ = some (.int .i64 0) := (hc1 w.heap.size 3 (by simp; try omega)).trans (by simp); have r14 : ∀ o, w1.frozen? ⟨w.heap.size, o, none⟩ = false := fun o => (hf1 w.heap.size o (by simp; try omega)).trans (by simp); clear hc1 hf1))
        exact bodyPost_ret (v := .tuple #[.agg #[.int .i64 a, .string b, .int .i64 c, .int .i64 d], .int .i64 x, .int .i64 y]) (by simp [results, Try.results28, go_sem, r10, r11, r12, r13]) rfl ⟨by rw [hr.out]; exact HT.out, (by repeat (first | exact Below.refl _ _ | exact below_alloc _ _ | refine Below.setCell ?_ (by simp) _ | refine below_back (by assumption) ?_ | refine Below.drew ?_ | refine below_drewN ?_ _ | refine Below.alloc ?_ (by first | exact Nat.le_refl _ | (simp; done) | (simp; omega)) _))⟩
end Go.Proofs.Ytpcepfoebkmbgaa
