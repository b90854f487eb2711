/- The document's answer: strings. -/
import Derived.Test.YtpcepfoebkmbgaaDoorLxRefC
namespace Go.Proofs.YtpcepfoebkmbgaaDoor
open Go.RowKit
set_option linter.unusedVariables false
theorem strG_quote (s : ByteArray) (j : Nat) (h : j < s.size) (h34 : s[j].toNat = 34) : LX.strG false (tl s j) = some ([], 1) := by
  rw [tl_cons s j h]; simp only [LX.strG]; rw [if_pos h34]
theorem strG_none (s : ByteArray) (j : Nat) (h34 : ∀ h : j < s.size, s[j].toNat ≠ 34) (hl : LX.letter 34 (tl s j) = none) : LX.strG false (tl s j) = none := by
  by_cases h : j < s.size
  · by_cases h42 : s[j].toNat = 42
    · by_cases h2 : j + 1 < s.size
      · rw [letter_esc _ s j h h42 h2] at hl
        rw [tl_cons s j h, tl_cons s (j + 1) h2]
        simp only [LX.strG]
        rw [if_neg (h34 h), if_pos h42]
        cases he : LX.esc s[j + 1] with
        | none => rfl
        | some x => rw [he] at hl; cases hl
      · rw [tl_cons s j h, tl_nil s (j + 1) (by omega)]
        simp only [LX.strG]
        rw [if_neg (h34 h), if_pos h42]; rfl
    · rw [letter_plain _ s j h h42] at hl
      rw [tl_cons s j h]
      simp only [LX.strG]
      rw [if_neg (h34 h), if_neg h42, if_neg]
      intro hp
      rw [if_pos ⟨hp, fun e => h34 h (by rw [e]; rfl)⟩] at hl
      cases hl
  · rw [tl_nil s j (by omega)]; rfl
theorem strG_some (s : ByteArray) (j : Nat) (d : UInt8) (n : Nat) (hl : LX.letter 34 (tl s j) = some (d, n)) : LX.strG false (tl s j) = (LX.strG false (tl s (j + n))).map (fun x => (d :: x.1, x.2 + n)) := by
  by_cases h : j < s.size
  · by_cases h42 : s[j].toNat = 42
    · by_cases h2 : j + 1 < s.size
      · rw [letter_esc _ s j h h42 h2] at hl
        simp only [Option.map_eq_some_iff, Prod.mk.injEq] at hl
        obtain ⟨x, he, rfl, rfl⟩ := hl
        rw [tl_cons s j h, tl_cons s (j + 1) h2]
        simp only [LX.strG]
        rw [if_neg (by omega), if_pos h42, he]
        simp only [Option.map_map]
        rfl
      · rw [letter_star _ s j h h42 h2] at hl; cases hl
    · rw [letter_plain _ s j h h42] at hl
      split at hl
      · rename_i hc
        injection hl with hl
        injection hl with e1 e2
        subst e1 e2
        rw [tl_cons s j h]
        simp only [LX.strG]
        rw [if_neg (show ¬ s[j].toNat = 34 from fun e => hc.2 (u8_ext (d := 34) e)), if_neg h42, if_pos hc.1]
      · cases hl
  · rw [letter_nil _ s j (by omega)] at hl; cases hl
/-- what has been read of a string: acc, up to byte j -/
def StrAt (s : ByteArray) (k j : Nat) (acc : LX.Bs) : Prop :=
  k + 1 ≤ j ∧ acc.length ≤ j - (k + 1) ∧ LX.strG false (tl s (k + 1)) = (LX.strG false (tl s j)).map (fun x => (acc ++ x.1, x.2 + (j - (k + 1))))
theorem StrAt.start (s : ByteArray) (k : Nat) : StrAt s k (k + 1) [] := ⟨Nat.le_refl _, by simp, by cases LX.strG false (tl s (k + 1)) <;> simp⟩
theorem StrAt.more {s : ByteArray} {k j : Nat} {acc : LX.Bs} (h : StrAt s k j acc) {d : UInt8} {n : Nat} (hl : LX.letter 34 (tl s j) = some (d, n)) : StrAt s k (j + n) (acc ++ [d]) := by
  obtain ⟨h1, h2, h3⟩ := h
  have hn := (letter_fits hl).1
  refine ⟨by omega, by simp; omega, ?_⟩
  rw [h3, strG_some s j d n hl]
  cases LX.strG false (tl s (j + n)) with
  | none => rfl
  | some x => simp; omega
theorem StrAt.none {s : ByteArray} {k j : Nat} {acc : LX.Bs} (h : StrAt s k j acc) (hn : LX.strG false (tl s j) = .none) : LX.textR (tl s (k + 1)) = .bad 21 := by
  unfold LX.textR; rw [h.2.2, hn]; rfl
theorem StrAt.long {s : ByteArray} {k j : Nat} {acc : LX.Bs} (h : StrAt s k j acc) (hn : LX.strG false (tl s j) = some ([], 1)) (hl : 100 < acc.length) : LX.textR (tl s (k + 1)) = .bad 2 := by
  unfold LX.textR; rw [h.2.2, hn]; simp only [Option.map_some, List.append_nil]; rw [if_pos hl]
theorem StrAt.good {s : ByteArray} {k j : Nat} {acc : LX.Bs} (h : StrAt s k j acc) (hn : LX.strG false (tl s j) = some ([], 1)) (hl : ¬ 100 < acc.length) : LX.textR (tl s (k + 1)) = .good 3 acc 0 (j - k + 1) := by
  unfold LX.textR; rw [h.2.2, hn]; simp only [Option.map_some, List.append_nil]; rw [if_neg hl]
  have := h.1
  congr 1; omega
theorem conv_one (W : World) (d : UInt8) : (convert 37 9 (.slice (some ⟨W.heap.size, 0, none⟩) 1 1)).run Tryd.prog (W.alloc (.cells #[.int .u8 (d.toNat : Int)] 5)) = .ok (.string ⟨[d].toArray⟩) (W.alloc (.cells #[.int .u8 (d.toNat : Int)] 5)) := by
  refine run_convert_bytes_back _ _ _ _ ⟨W.heap.size, 0, none⟩ 1 [d] Tryd.underlying37 Tryd.underlying5 Tryd.underlying9 ?_
  intro j hj
  have : j = 0 := by simp at hj; omega
  subst this
  exact (World.cell?_alloc_at _ _ _ _ rfl).trans rfl
end Go.Proofs.YtpcepfoebkmbgaaDoor
