/- The document's answer: a name or a key. -/
import Derived.Test.YtpcepfoebkmbgaaLxLet
namespace Go.Proofs.Ytpcepfoebkmbgaa
open Go.RowKit
set_option linter.unusedVariables false
theorem tw_step (p : UInt8 → Bool) (s : ByteArray) (k : Nat) (h : k < s.size) (hp : p s[k] = true) : ((tl s k).takeWhile p).length = ((tl s (k + 1)).takeWhile p).length + 1 := by
  rw [tl_cons s k h, List.takeWhile_cons, if_pos hp]; rfl
theorem tw_stop (p : UInt8 → Bool) (s : ByteArray) (k : Nat) (h : k < s.size) (hp : p s[k] = false) : ((tl s k).takeWhile p).length = 0 := by
  rw [tl_cons s k h, List.takeWhile_cons, if_neg (by simp [hp])]; rfl
theorem tw_nil (p : UInt8 → Bool) (s : ByteArray) (k : Nat) (h : s.size ≤ k) : ((tl s k).takeWhile p).length = 0 := by
  rw [tl_nil s k h]; rfl
/-- how many bytes of a name are ahead -/
def wl (s : ByteArray) (k : Nat) : Nat := ((tl s k).takeWhile LX.part).length
theorem wl_le (s : ByteArray) (k : Nat) (h : k ≤ s.size) : k + wl s k ≤ s.size := by
  have := LX.takeWhile_le LX.part (tl s k)
  rw [tl_len] at this; unfold wl; omega
theorem tw_take (p : UInt8 → Bool) : ∀ l : LX.Bs, l.takeWhile p = l.take (l.takeWhile p).length := by
  intro l
  have := List.takeWhile_prefix p (l := l)
  exact (List.prefix_iff_eq_take.1 this)
theorem word_bytes (s : ByteArray) (k j : Nat) (h : j = k + wl s k) : bs (s.extract k j) = (tl s k).takeWhile LX.part := by
  rw [ext_take s k j _ h, tw_take]; rfl
theorem word_long {s : ByteArray} {k : Nat} (h : 24 < wl s k) : LX.wordR (tl s k) = .bad 2 := by
  unfold wl at h; unfold LX.wordR; rw [if_pos h]
theorem word_key {s : ByteArray} {k : Nat} (h : ¬ 24 < wl s k) (hk : (tl s k).takeWhile LX.part ∈ LX.keyL) : LX.wordR (tl s k) = .good 4 ((tl s k).takeWhile LX.part) 0 (wl s k) := by
  unfold wl at h ⊢; unfold LX.wordR; rw [if_neg h, if_pos hk]
theorem word_name {s : ByteArray} {k : Nat} (h : ¬ 24 < wl s k) (hk : (tl s k).takeWhile LX.part ∉ LX.keyL) : LX.wordR (tl s k) = .good 1 ((tl s k).takeWhile LX.part) 0 (wl s k) := by
  unfold wl at h ⊢; unfold LX.wordR; rw [if_neg h, if_neg hk]
set_option maxHeartbeats 1000000 in
theorem refWord_c (s : ByteArray) (k : Nat) (w : World) (hs : s.size ≤ 1000000) (hk : k ≤ s.size) :
    Calls Try.prog 46 #[.string s, .int .i64 (k : Nat)] w fun e w' => TokR (LX.wordR (tl s k)) k e ∧ Below w.heap.size w w' := by
  have hwl := wl_le s k hk
  go_enter Try.func46, Try.ntmps46
  go_wp2
  go_loop [7] (fun i => ∃ j : Nat, k ≤ j ∧ j ≤ s.size ∧ i = .int .i64 j ∧ Hid (j + wl s j = k + wl s k)) (fun i => s.size - (intOf i).toNat)
  case atStart => exact ⟨k, Nat.le_refl _, hk, rfl, (show Hid _ from (rfl : k + wl s k = _))⟩
  case round =>
    obtain ⟨j, hj1, hj2, rfl, hq⟩ := hrel
    by_cases hgo : ∃ hlt : j < s.size, LX.part s[j] = true
    · obtain ⟨hlt, hp⟩ := hgo
      have hq2 : Hid (j + 1 + wl s (j + 1) = k + wl s k) := by
        show _ = _
        have := tw_step LX.part s j hlt hp
        have := hq.out
        unfold wl at *; omega
      go_wp2_with (first | (go_at_call 33; refine (refPart_c _ _).mono ?_; rintro e w' ⟨rfl, rfl⟩))
      go_round
      case rel => exact ⟨j + 1, by omega, by omega, by go_num, hq2⟩
      case measure => simp [intOf]; omega
    · have hz : Hid (j = k + wl s k) := by
        show _ = _
        have h1 := hq.out
        by_cases hlt : j < s.size
        · have := tw_stop LX.part s j hlt (by simpa using fun h => hgo ⟨hlt, h⟩)
          unfold wl at *; omega
        · have := tw_nil LX.part s j (by omega)
          unfold wl at *; omega
      have HB : Hid (bs (s.extract k j) = (tl s k).takeWhile LX.part) := word_bytes s k j hz.out
      have HX : Hid (s.extract k j = ⟨((tl s k).takeWhile LX.part).toArray⟩) := by show _ = _; rw [← HB.out, ← bs_str]
      have HC0 := Lib.hid (fun (v : Value) (W : World) (hv : RdS W v LX.keyL) => has_c v LX.keyL (bs (s.extract k j)) W hv)
      rw [← bs_str (s.extract k j)] at HC0
      have hcond : (j < s.size ∧ ∃ hlt : j < s.size, LX.part s[j] = false) ∨ ¬ j < s.size := by
        by_cases hlt : j < s.size
        · exact .inl ⟨hlt, hlt, by simpa using fun h => hgo ⟨hlt, h⟩⟩
        · exact .inr hlt
      clear hgo
      by_cases h24 : 24 < wl s k
      · have hr : Hid (LX.wordR (tl s k) = .bad 2) := word_long h24
        have h24' : (24 : Int) < ((j - k : Nat) : Int) := by have := hz.out; omega
        clear h24 hwl HC0
        rcases hcond with ⟨hlt, _, hp⟩ | hlt
        all_goals
          go_wp2_with (first | (go_at_call 33; refine (refPart_c _ _).mono ?_; rintro e w' ⟨rfl, rfl⟩))
          exact bodyPost_ret (v := .tuple #[.agg #[.int .i64 0, .string ⟨#[]⟩, .int .i64 0, .int .i64 0], .int .i64 (k : Int), .int .i64 2]) (by simp [results, Try.results46, go_sem]) rfl ⟨.bad hr.out rfl rfl, (Below.refl _ _).alloc (Nat.le_refl _) _⟩
      · have h24' : ¬ (24 : Int) < ((j - k : Nat) : Int) := by have := hz.out; omega
        by_cases hin : (tl s k).takeWhile LX.part ∈ LX.keyL
        · have hr : Hid (LX.wordR (tl s k) = .good 4 ((tl s k).takeWhile LX.part) 0 (wl s k)) := word_key h24 hin
          have hd : decide (bs (s.extract k j) ∈ LX.keyL) = true := by rw [HB.out]; simpa using hin
          rw [hd] at HC0
          clear h24 hwl hin hd
          rcases hcond with ⟨hlt, _, hp⟩ | hlt
          all_goals
            go_wp2_with (first | (go_at_call 33; refine (refPart_c _ _).mono ?_; rintro e w' ⟨rfl, rfl⟩) | (go_at_call 16; refine (refKeys_c _).mono ?_; rintro e w1 ⟨v, rfl, hr1, hb1⟩; obtain ⟨hc1, hf1⟩ := bcell hb1; have HR := Lib.hid hr1; clear hr1) | (go_at_call 32; refine (HC0.out _ _ HR.out).mono ?_; rintro e w' ⟨rfl, rfl⟩))
            exact bodyPost_ret (v := .tuple #[.agg #[.int .i64 4, .string (s.extract k j), .int .i64 0, .int .i64 (k : Int)], .int .i64 (j : Int), .int .i64 0]) (by simp [results, Try.results46, go_sem, hc1]) rfl ⟨.good hr.out rfl HX.out rfl (by have := hz.out; omega), (by repeat (first | exact Below.refl _ _ | exact below_alloc _ _ | refine Below.setCell ?_ (by simp) _ | refine below_back (by assumption) ?_ | refine Below.drew ?_ | refine below_drewN ?_ _ | refine Below.alloc ?_ (by first | exact Nat.le_refl _ | (simp; done) | (simp; omega)) _))⟩
        · have hr : Hid (LX.wordR (tl s k) = .good 1 ((tl s k).takeWhile LX.part) 0 (wl s k)) := word_name h24 hin
          have hd : decide (bs (s.extract k j) ∈ LX.keyL) = false := by rw [HB.out]; simpa using hin
          rw [hd] at HC0
          clear h24 hwl hin hd
          rcases hcond with ⟨hlt, _, hp⟩ | hlt
          all_goals
            go_wp2_with (first | (go_at_call 33; refine (refPart_c _ _).mono ?_; rintro e w' ⟨rfl, rfl⟩) | (go_at_call 16; refine (refKeys_c _).mono ?_; rintro e w1 ⟨v, rfl, hr1, hb1⟩; obtain ⟨hc1, hf1⟩ := bcell hb1; have HR := Lib.hid hr1; clear hr1) | (go_at_call 32; refine (HC0.out _ _ HR.out).mono ?_; rintro e w' ⟨rfl, rfl⟩))
            exact bodyPost_ret (v := .tuple #[.agg #[.int .i64 1, .string (s.extract k j), .int .i64 0, .int .i64 (k : Int)], .int .i64 (j : Int), .int .i64 0]) (by simp [results, Try.results46, go_sem, hc1]) rfl ⟨.good hr.out rfl HX.out rfl (by have := hz.out; omega), (by repeat (first | exact Below.refl _ _ | exact below_alloc _ _ | refine Below.setCell ?_ (by simp) _ | refine below_back (by assumption) ?_ | refine Below.drew ?_ | refine below_drewN ?_ _ | refine Below.alloc ?_ (by first | exact Nat.le_refl _ | (simp; done) | (simp; omega)) _))⟩
end Go.Proofs.Ytpcepfoebkmbgaa
