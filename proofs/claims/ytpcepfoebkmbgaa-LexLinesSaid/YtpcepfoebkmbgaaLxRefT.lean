/- The document's answer: strings. -/
import Derived.Test.YtpcepfoebkmbgaaLxRefC
namespace Go.Proofs.Ytpcepfoebkmbgaa
open Go.RowKit
set_option linter.unusedVariables false
theorem strG_quote (s : ByteArray) (j : Nat) (h : j < s.size) (h34 : s[j].toNat = 34) : LX.strG false (tl s j) = some ([], 1) := by
  rw [tl_cons s j h]; simp only [LX.strG]; rw [if_pos h34]
theorem strG_none (s : ByteArray) (j : Nat) (h34 : ∀ h : j < s.size, s[j].toNat ≠ 34) (hl : LX.letter 34 (tl s j) = none) : LX.strG false (tl s j) = none := by
  by_cases h : j < s.size
  · by_cases h42 : s[j].toNat = 42
    · by_cases h2 : j + 1 < s.size
      · rw [letter_esc _ s j h h42 h2] at hl
        rw [tl_cons s j h, tl_cons s (j + 1) h2]
        simp only [LX.strG]
        rw [if_neg (h34 h), if_pos h42]
        cases he : LX.esc s[j + 1] with
        | none => rfl
        | some x => rw [he] at hl; cases hl
      · rw [tl_cons s j h, tl_nil s (j + 1) (by omega)]
        simp only [LX.strG]
        rw [if_neg (h34 h), if_pos h42]; rfl
    · rw [letter_plain _ s j h h42] at hl
      rw [tl_cons s j h]
      simp only [LX.strG]
      rw [if_neg (h34 h), if_neg h42, if_neg]
      intro hp
      rw [if_pos ⟨hp, fun e => h34 h (by rw [e]; rfl)⟩] at hl
      cases hl
  · rw [tl_nil s j (by omega)]; rfl
theorem strG_some (s : ByteArray) (j : Nat) (d : UInt8) (n : Nat) (hl : LX.letter 34 (tl s j) = some (d, n)) : LX.strG false (tl s j) = (LX.strG false (tl s (j + n))).map (fun x => (d :: x.1, x.2 + n)) := by
  by_cases h : j < s.size
  · by_cases h42 : s[j].toNat = 42
    · by_cases h2 : j + 1 < s.size
      · rw [letter_esc _ s j h h42 h2] at hl
        simp only [Option.map_eq_some_iff, Prod.mk.injEq] at hl
        obtain ⟨x, he, rfl, rfl⟩ := hl
        rw [tl_cons s j h, tl_cons s (j + 1) h2]
        simp only [LX.strG]
        rw [if_neg (by omega), if_pos h42, he]
        simp only [Option.map_map]
        rfl
      · rw [letter_star _ s j h h42 h2] at hl; cases hl
    · rw [letter_plain _ s j h h42] at hl
      split at hl
      · rename_i hc
        injection hl with hl
        injection hl with e1 e2
        subst e1 e2
        rw [tl_cons s j h]
        simp only [LX.strG]
        rw [if_neg (show ¬ s[j].toNat = 34 from fun e => hc.2 (u8_ext (d := 34) e)), if_neg h42, if_pos hc.1]
      · cases hl
  · rw [letter_nil _ s j (by omega)] at hl; cases hl
/-- what has been read of a string: acc, up to byte j -/
def StrAt (s : ByteArray) (k j : Nat) (acc : LX.Bs) : Prop :=
  k + 1 ≤ j ∧ acc.length ≤ j - (k + 1) ∧ LX.strG false (tl s (k + 1)) = (LX.strG false (tl s j)).map (fun x => (acc ++ x.1, x.2 + (j - (k + 1))))
theorem StrAt.start (s : ByteArray) (k : Nat) : StrAt s k (k + 1) [] := ⟨Nat.le_refl _, by simp, by cases LX.strG false (tl s (k + 1)) <;> simp⟩
theorem StrAt.more {s : ByteArray} {k j : Nat} {acc : LX.Bs} (h : StrAt s k j acc) {d : UInt8} {n : Nat} (hl : LX.letter 34 (tl s j) = some (d, n)) : StrAt s k (j + n) (acc ++ [d]) := by
  obtain ⟨h1, h2, h3⟩ := h
  have hn := (letter_fits hl).1
  refine ⟨by omega, by simp; omega, ?_⟩
  rw [h3, strG_some s j d n hl]
  cases LX.strG false (tl s (j + n)) with
  | none => rfl
  | some x => simp; omega
theorem StrAt.none {s : ByteArray} {k j : Nat} {acc : LX.Bs} (h : StrAt s k j acc) (hn : LX.strG false (tl s j) = .none) : LX.textR (tl s (k + 1)) = .bad 21 := by
  unfold LX.textR; rw [h.2.2, hn]; rfl
theorem StrAt.long {s : ByteArray} {k j : Nat} {acc : LX.Bs} (h : StrAt s k j acc) (hn : LX.strG false (tl s j) = some ([], 1)) (hl : 100 < acc.length) : LX.textR (tl s (k + 1)) = .bad 2 := by
  unfold LX.textR; rw [h.2.2, hn]; simp only [Option.map_some, List.append_nil]; rw [if_pos hl]
theorem StrAt.good {s : ByteArray} {k j : Nat} {acc : LX.Bs} (h : StrAt s k j acc) (hn : LX.strG false (tl s j) = some ([], 1)) (hl : ¬ 100 < acc.length) : LX.textR (tl s (k + 1)) = .good 3 acc 0 (j - k + 1) := by
  unfold LX.textR; rw [h.2.2, hn]; simp only [Option.map_some, List.append_nil]; rw [if_neg hl]
  have := h.1
  congr 1; omega
theorem conv_one (W : World) (d : UInt8) : (convert 60 9 (.slice (some ⟨W.heap.size, 0, none⟩) 1 1)).run Try.prog (W.alloc (.cells #[.int .u8 (d.toNat : Int)] 5)) = .ok (.string ⟨[d].toArray⟩) (W.alloc (.cells #[.int .u8 (d.toNat : Int)] 5)) := by
  refine run_convert_bytes_back _ _ _ _ ⟨W.heap.size, 0, none⟩ 1 [d] Try.underlying60 Try.underlying5 Try.underlying9 ?_
  intro j hj
  have : j = 0 := by simp at hj; omega
  subst this
  exact (World.cell?_alloc_at _ _ _ _ rfl).trans rfl
set_option maxHeartbeats 1000000 in
theorem refText_c (s : ByteArray) (k : Nat) (w : World) (hs : s.size ≤ 1000000) (hk : k < s.size) :
    Calls Try.prog 50 #[.string s, .int .i64 (k : Nat)] w fun e w' => TokR (LX.textR (tl s (k + 1))) k e ∧ Below w.heap.size w w' := by
  go_enter Try.func50, Try.ntmps50
  go_wp2
  obtain ⟨W0, hW0⟩ : ∃ W0, W0 = w.alloc (.cells #[.int .i64 0, .string ⟨#[]⟩, .int .i64 0, .int .i64 0] 36) := ⟨_, rfl⟩
  rw [← hW0]
  have HW0 := Lib.hid hW0
  have hz0 : W0.heap.size = w.heap.size + 1 := by rw [hW0]; simp
  have hbw : Below w.heap.size w W0 := by rw [hW0]; exact below_alloc _ _
  have hc0 : W0.cell? ⟨w.heap.size, 0, none⟩ = some (.int .i64 0) ∧ W0.cell? ⟨w.heap.size, 1, none⟩ = some (.string ⟨#[]⟩) ∧ W0.cell? ⟨w.heap.size, 2, none⟩ = some (.int .i64 0) ∧ W0.cell? ⟨w.heap.size, 3, none⟩ = some (.int .i64 0) ∧ ∀ o, W0.frozen? ⟨w.heap.size, o, none⟩ = false := by
    rw [hW0]
    refine ⟨(World.cell?_alloc_at _ _ _ _ rfl).trans rfl, (World.cell?_alloc_at _ _ _ _ rfl).trans rfl, (World.cell?_alloc_at _ _ _ _ rfl).trans rfl, (World.cell?_alloc_at _ _ _ _ rfl).trans rfl, fun o => ?_⟩
    simp
  clear hW0
  go_loopw [7, 8] (fun a i wr => ∃ (j : Nat) (acc : LX.Bs), j ≤ s.size ∧ i = .int .i64 j ∧ a = .string ⟨acc.toArray⟩ ∧ acc.length ≤ s.size ∧ Hid (StrAt s k j acc) ∧ Below W0.heap.size W0 wr) (fun _ i _ => s.size - (intOf i).toNat)
  case atStart => exact ⟨k + 1, [], by omega, by go_num, rfl, by simp, StrAt.start s k, Below.refl _ _⟩
  case round =>
    obtain ⟨j, acc, hj, rfl, rfl, hac, hq, hb⟩ := hrel
    by_cases h34 : ∃ h : j < s.size, s[j].toNat = 34
    · obtain ⟨hlt, h34⟩ := h34
      have hg : Hid (LX.strG false (tl s j) = some ([], 1)) := strG_quote s j hlt h34
      have f1 := neF (c := s[j]) 34 (by omega)
      have g1 : decide ((s.size : Int) ≤ (j : Int)) = false := by rw [decide_eq_false_iff_not]; omega
      clear h34
      obtain ⟨q0, q1, q2, q3, q4⟩ := hc0
      obtain ⟨hc1, hf1⟩ := bcell hb
      have r0 := (hc1 w.heap.size 0 (by omega)).trans q0
      have r1 := (hc1 w.heap.size 1 (by omega)).trans q1
      have r2 := (hc1 w.heap.size 2 (by omega)).trans q2
      have r3 := (hc1 w.heap.size 3 (by omega)).trans q3
      have r4 : ∀ o, wr.frozen? ⟨w.heap.size, o, none⟩ = false := fun o => (hf1 w.heap.size o (by omega)).trans (q4 o)
      have hww : Below w.heap.size w wr := below_then hbw hb
      clear hc1 hf1 q0 q1 q2 q3 q4
      by_cases h100 : 100 < acc.length
      · have hr : Hid (LX.textR (tl s (k + 1)) = .bad 2) := hq.out.long hg.out h100
        have h1' : (100 : Int) < (acc.length : Int) := by omega
        clear h100
        go_wp2
        exact bodyPost_ret (v := .tuple #[.agg #[.int .i64 0, .string ⟨#[]⟩, .int .i64 0, .int .i64 0], .int .i64 (k : Int), .int .i64 2]) (by simp [results, Try.results50, go_sem, r0, r1, r2, r3]) rfl ⟨.bad hr.out rfl rfl, (by repeat (first | exact hww | refine Below.setCell ?_ (by simp) _))⟩
      · have hr : Hid (LX.textR (tl s (k + 1)) = .good 3 acc 0 (j - k + 1)) := hq.out.good hg.out h100
        have h1' : ¬ (100 : Int) < (acc.length : Int) := by omega
        have hkj : k + 1 ≤ j := hq.out.1
        clear h100
        go_wp2
        exact bodyPost_ret (v := .tuple #[.agg #[.int .i64 3, .string ⟨acc.toArray⟩, .int .i64 0, .int .i64 (k : Int)], .int .i64 ((j : Int) + 1), .int .i64 0]) (by simp [results, Try.results50, go_sem, r0, r1, r2, r3]) rfl ⟨.good hr.out rfl rfl rfl (by omega), (by repeat (first | exact hww | refine Below.setCell ?_ (by simp) _))⟩
    · cases hl : LX.letter 34 (tl s j) with
      | none =>
        have hn : LX.strG false (tl s j) = none := strG_none s j (fun h h2 => h34 ⟨h, h2⟩) hl
        have hr : Hid (LX.textR (tl s (k + 1)) = .bad 21) := hq.out.none hn
        have HC := Lib.hid (fun W => letter_no 34 34 rfl s j (j : Int) rfl W hs hj hl)
        have hcond : (∃ hlt : j < s.size, ((s[j].toNat : Int) != 34) = true) ∨ ¬ j < s.size := by
          by_cases hlt : j < s.size
          · exact .inl ⟨hlt, neT (c := s[j]) 34 (fun h => h34 ⟨hlt, by omega⟩)⟩
          · exact .inr hlt
        obtain ⟨q0, q1, q2, q3, q4⟩ := hc0
        obtain ⟨hc1, hf1⟩ := bcell hb
        have r0 := (hc1 w.heap.size 0 (by omega)).trans q0
        have r1 := (hc1 w.heap.size 1 (by omega)).trans q1
        have r2 := (hc1 w.heap.size 2 (by omega)).trans q2
        have r3 := (hc1 w.heap.size 3 (by omega)).trans q3
        have r4 : ∀ o, wr.frozen? ⟨w.heap.size, o, none⟩ = false := fun o => (hf1 w.heap.size o (by omega)).trans (q4 o)
        have hww : Below w.heap.size w wr := below_then hbw hb
        clear hc1 hf1 q0 q1 q2 q3 q4 hl hn h34
        rcases hcond with ⟨hlt, f1⟩ | hlt
        · have g1 : decide ((s.size : Int) ≤ (j : Int)) = false := by rw [decide_eq_false_iff_not]; omega
          go_wp2_with (go_at_call 63; refine (HC.out _).mono ?_; rintro e w' ⟨a, b, rfl, rfl⟩)
          exact bodyPost_ret (v := .tuple #[.agg #[.int .i64 0, .string ⟨#[]⟩, .int .i64 0, .int .i64 0], .int .i64 (k : Int), .int .i64 21]) (by simp [results, Try.results50, go_sem, r0, r1, r2, r3]) rfl ⟨.bad hr.out rfl rfl, (by repeat (first | exact hww | refine Below.setCell ?_ (by simp) _))⟩
        · have g1 : decide ((s.size : Int) ≤ (j : Int)) = true := by rw [decide_eq_true_iff]; omega
          go_wp2_with (go_at_call 63; refine (HC.out _).mono ?_; rintro e w' ⟨a, b, rfl, rfl⟩)
          exact bodyPost_ret (v := .tuple #[.agg #[.int .i64 0, .string ⟨#[]⟩, .int .i64 0, .int .i64 0], .int .i64 (k : Int), .int .i64 21]) (by simp [results, Try.results50, go_sem, r0, r1, r2, r3]) rfl ⟨.bad hr.out rfl rfl, (by repeat (first | exact hww | refine Below.setCell ?_ (by simp) _))⟩
      | some x =>
        obtain ⟨d, n⟩ := x
        obtain ⟨hn1, hn2⟩ := letter_fits hl
        have HC := Lib.hid (fun W => letter_yes 34 34 rfl s j (j : Int) rfl W hs hj d n hl _ ((j + n : Nat) : Int) rfl (by omega))
        have hq2 : Hid (StrAt s k (j + n) (acc ++ [d])) := hq.out.more hl
        generalize hjn : j + n = j2 at *
        have HJ := Lib.hid hjn
        clear hjn
        obtain ⟨hd1, hd2⟩ := u8_bd d
        have hlt : j < s.size := by have := HJ.out; omega
        have f1 := neT (c := s[j]) 34 (fun h => h34 ⟨hlt, by omega⟩)
        have g1 : decide ((s.size : Int) ≤ (j : Int)) = false := by rw [decide_eq_false_iff_not]; omega
        have hcv := conv_one wr d
        clear hl h34
        go_wp2_with (go_at_call 63; refine (HC.out _).mono ?_; rintro e w' ⟨rfl, rfl⟩)
        go_roundw
        case rel => exact ⟨j2, acc ++ [d], hn2, rfl, by rw [ByteArray.mk_append_mk], by have := hq2.out.2.1; omega, hq2, Below.alloc hb hb.size _⟩
        case measure => simp [intOf]; have := HJ.out; omega
end Go.Proofs.Ytpcepfoebkmbgaa
