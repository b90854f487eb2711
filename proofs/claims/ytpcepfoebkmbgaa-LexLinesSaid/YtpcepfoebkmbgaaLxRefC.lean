/- The document's answer: characters. -/
import Derived.Test.YtpcepfoebkmbgaaLxRefN
namespace Go.Proofs.Ytpcepfoebkmbgaa
open Go.RowKit
set_option linter.unusedVariables false
theorem letter_no (q : UInt8) (m : Int) (hm : (q.toNat : Int) = m) (s : ByteArray) (k : Nat) (ki : Int) (hki : ki = (k : Int)) (w : World) (hs : s.size ≤ 1000000) (hk : k ≤ s.size) (h : LX.letter q (tl s k) = none) :
    Calls Try.prog 63 #[.string s, .int .i64 ki, .int .u8 m] w fun e w' => ∃ a b : Int, e = .returned (.tuple #[.int .u8 a, .int .i64 b, .bool false]) ∧ w = w' := by
  subst hki
  refine (letter_c q m hm s k w hs hk).mono ?_
  rintro e w' ⟨hr, rfl⟩
  unfold LetR at hr; rw [h] at hr
  obtain ⟨a, b, rfl⟩ := hr
  exact ⟨a, b, rfl, rfl⟩
theorem letter_yes (q : UInt8) (m : Int) (hm : (q.toNat : Int) = m) (s : ByteArray) (k : Nat) (ki : Int) (hki : ki = (k : Int)) (w : World) (hs : s.size ≤ 1000000) (hk : k ≤ s.size) (d : UInt8) (n : Nat) (h : LX.letter q (tl s k) = some (d, n)) (di ni : Int) (hdi : di = (d.toNat : Int)) (hni : ni = ki + (n : Int)) :
    Calls Try.prog 63 #[.string s, .int .i64 ki, .int .u8 m] w fun e w' => e = .returned (.tuple #[.int .u8 di, .int .i64 ni, .bool true]) ∧ w = w' := by
  subst hki
  refine (letter_c q m hm s k w hs hk).mono ?_
  rintro e w' ⟨hr, rfl⟩
  unfold LetR at hr; rw [h] at hr
  simp only at hr
  refine ⟨?_, rfl⟩
  rw [hr, hdi, hni]; rfl
theorem letter_fits {q : UInt8} {s : ByteArray} {k : Nat} {d : UInt8} {n : Nat} (h : LX.letter q (tl s k) = some (d, n)) : 1 ≤ n ∧ k + n ≤ s.size := by
  have := LX.letter_len h
  rw [tl_len] at this; omega
theorem char_none {r : LX.Bs} (h : LX.letter 39 r = none) : LX.charR r = .bad 21 := by unfold LX.charR; rw [h]
theorem char_good {s : ByteArray} {k : Nat} {d : UInt8} {n : Nat} (h : LX.letter 39 (tl s k) = some (d, n)) (hk : k + n < s.size) (h39 : s[k + n].toNat = 39) : LX.charR (tl s k) = .good 2 [] d.toNat (n + 2) := by
  unfold LX.charR; rw [h]; simp only
  rw [tl_drop, tl_head, dif_pos hk, if_pos]
  rw [u8_ext (c := s[k + n]) (d := 39) h39]
theorem char_bad {s : ByteArray} {k : Nat} {d : UInt8} {n : Nat} (h : LX.letter 39 (tl s k) = some (d, n)) (h39 : ∀ hk : k + n < s.size, s[k + n].toNat ≠ 39) : LX.charR (tl s k) = .bad 21 := by
  unfold LX.charR; rw [h]; simp only
  rw [tl_drop, tl_head, if_neg]
  split
  · rename_i hk
    intro he
    injection he with he
    exact h39 hk (by rw [he]; rfl)
  · simp
set_option maxHeartbeats 1000000 in
theorem refChar_c (s : ByteArray) (k : Nat) (w : World) (hs : s.size ≤ 1000000) (hk : k < s.size) :
    Calls Try.prog 51 #[.string s, .int .i64 (k : Nat)] w fun e w' => TokR (LX.charR (tl s (k + 1))) k e ∧ Below w.heap.size w w' := by
  cases hl : LX.letter 39 (tl s (k + 1)) with
  | none =>
    have hr : Hid (LX.charR (tl s (k + 1)) = .bad 21) := char_none hl
    have HC := Lib.hid (fun W => letter_no 39 39 rfl s (k + 1) ((k : Int) + 1) (by omega) W hs (by omega) hl)
    clear hl
    go_enter Try.func51, Try.ntmps51
    go_wp2_with (go_at_call 63; refine (HC.out _).mono ?_; rintro e w' ⟨a, b, rfl, rfl⟩)
    exact bodyPost_ret (v := .tuple #[.agg #[.int .i64 0, .string ⟨#[]⟩, .int .i64 0, .int .i64 0], .int .i64 (k : Int), .int .i64 21]) (by simp [results, Try.results51, go_sem]) rfl ⟨.bad hr.out rfl rfl, (Below.refl _ _).alloc (Nat.le_refl _) _⟩
  | some x =>
    obtain ⟨d, n⟩ := x
    obtain ⟨hn1, hn2⟩ := letter_fits hl
    have HC := Lib.hid (fun W => letter_yes 39 39 rfl s (k + 1) ((k : Int) + 1) (by omega) W hs (by omega) d n hl _ ((k + 1 + n : Nat) : Int) rfl (by omega))
    generalize hj : k + 1 + n = j at *
    have HJ := Lib.hid hj
    clear hj
    by_cases h39 : ∃ hlt : j < s.size, s[j].toNat = 39
    · obtain ⟨hlt, h39⟩ := h39
      have hr : Hid (LX.charR (tl s (k + 1)) = .good 2 [] d.toNat (n + 2)) := by
        have h0 := HJ.out
        subst h0
        exact char_good hl hlt h39
      have f1 := neF (c := s[j]) 39 (by omega)
      have hg : decide ((s.size : Int) ≤ (j : Int)) = false := by rw [decide_eq_false_iff_not]; omega
      obtain ⟨hd1, hd2⟩ := u8_bd d
      clear hl h39
      go_enter Try.func51, Try.ntmps51
      go_wp2_with (go_at_call 63; refine (HC.out _).mono ?_; rintro e w' ⟨rfl, rfl⟩)
      exact bodyPost_ret (v := .tuple #[.agg #[.int .i64 2, .string ⟨#[]⟩, .int .i64 (d.toNat : Int), .int .i64 (k : Int)], .int .i64 ((j : Int) + 1), .int .i64 0]) (by simp [results, Try.results51, go_sem]) rfl ⟨.good hr.out rfl rfl rfl (by have := HJ.out; omega), (Below.refl _ _).alloc (Nat.le_refl _) _⟩
    · have hr : Hid (LX.charR (tl s (k + 1)) = .bad 21) := by
        have h0 := HJ.out
        subst h0
        exact char_bad hl (fun h h2 => h39 ⟨h, h2⟩)
      have hcond : (∃ hlt : j < s.size, ((s[j].toNat : Int) != 39) = true) ∨ ¬ j < s.size := by
        by_cases hlt : j < s.size
        · exact .inl ⟨hlt, neT (c := s[j]) 39 (fun h => h39 ⟨hlt, by omega⟩)⟩
        · exact .inr hlt
      clear hl h39
      rcases hcond with ⟨hlt, f1⟩ | hlt
      · have hg : decide ((s.size : Int) ≤ (j : Int)) = false := by rw [decide_eq_false_iff_not]; omega
        go_enter Try.func51, Try.ntmps51
        go_wp2_with (go_at_call 63; refine (HC.out _).mono ?_; rintro e w' ⟨rfl, rfl⟩)
        exact bodyPost_ret (v := .tuple #[.agg #[.int .i64 0, .string ⟨#[]⟩, .int .i64 0, .int .i64 0], .int .i64 (k : Int), .int .i64 21]) (by simp [results, Try.results51, go_sem]) rfl ⟨.bad hr.out rfl rfl, (Below.refl _ _).alloc (Nat.le_refl _) _⟩
      · have hg : decide ((s.size : Int) ≤ (j : Int)) = true := by rw [decide_eq_true_iff]; omega
        go_enter Try.func51, Try.ntmps51
        go_wp2_with (go_at_call 63; refine (HC.out _).mono ?_; rintro e w' ⟨rfl, rfl⟩)
        exact bodyPost_ret (v := .tuple #[.agg #[.int .i64 0, .string ⟨#[]⟩, .int .i64 0, .int .i64 0], .int .i64 (k : Int), .int .i64 21]) (by simp [results, Try.results51, go_sem]) rfl ⟨.bad hr.out rfl rfl, (Below.refl _ _).alloc (Nat.le_refl _) _⟩
end Go.Proofs.Ytpcepfoebkmbgaa
