/- The program's scan. -/
import Derived.Test.YtpcepfoebkmbgaaDoorLxTell
import Derived.Test.YtpcepfoebkmbgaaDoorLxRefScan
namespace Go.Proofs.YtpcepfoebkmbgaaDoor
open Go.RowKit
set_option linter.unusedVariables false
/-- the signs that the scanner holds -/
def Sgs (w : World) (sb so : Nat) : Prop := ∀ i, i < 28 → w.cell? ⟨sb, so + i, none⟩ = some (.string ⟨(LX.signL.getD i []).toArray⟩)
/-- method k is the one that reads the token at p -/
def Tells (k : FuncId) (s : ByteArray) (b p mb sb so sc : Nat) (r : LX.Res) : Prop :=
  (∀ W, Scn W b s p p (.map (some mb)) (.slice (some ⟨sb, so, none⟩) 28 sc) → Calls Tryd.prog 28 #[.pointer (some ⟨b, 0, none⟩)] W fun e w' => e = .returned (tellV k b) ∧ ∃ n, w' = W.drewN n) ∧
  ∀ W, Scn W b s p p (.map (some mb)) (.slice (some ⟨sb, so, none⟩) 28 sc) → Keys W mb → Sgs W sb so → Calls Tryd.prog k #[.pointer (some ⟨b, 0, none⟩)] W fun e w' => TokM r e w' b s p (.map (some mb)) (.slice (some ⟨sb, so, none⟩) 28 sc) ∧ W.grownBy w' (some b)
theorem tells (s : ByteArray) (b p mb sb so sc : Nat) (hs : s.size ≤ 1000000) (hp : p < s.size) (hmb : mb ≠ b) (hsb : sb ≠ b) :
    Tells 42 s b p mb sb so sc (LX.tok s[p] (tl s (p + 1))) ∨ Tells 44 s b p mb sb so sc (LX.tok s[p] (tl s (p + 1))) ∨ Tells 45 s b p mb sb so sc (LX.tok s[p] (tl s (p + 1))) ∨ Tells 46 s b p mb sb so sc (LX.tok s[p] (tl s (p + 1))) ∨ Tells 47 s b p mb sb so sc (LX.tok s[p] (tl s (p + 1))) ∨ Tells 48 s b p mb sb so sc (LX.tok s[p] (tl s (p + 1))) := by
  have htl := tl_cons s p hp
  cases hsm : LX.small s[p] with
  | true => exact .inl ⟨fun W h => teller_word s b p _ _ W hs h hp hsm, fun W h hk hg => by rw [tok_word hsm, ← htl]; exact word_c s b p mb _ W hs (Nat.le_of_lt hp) h hk hmb⟩
  | false =>
    cases hdg : LX.isDig s[p] with
    | true => exact .inr (.inl ⟨fun W h => teller_decimal s b p _ _ W hs h hp hsm hdg, fun W h hk hg => by rw [tok_dec hsm hdg, ← htl]; exact decimal_c s b p _ _ W hs (Nat.le_of_lt hp) h⟩)
    | false =>
      by_cases h35 : s[p].toNat = 35
      · exact .inr (.inr (.inl ⟨fun W h => teller_hexadecimal s b p _ _ W hs h hp hsm hdg h35, fun W h hk hg => by rw [tok_hex hsm hdg h35]; exact hexadecimal_c s b p _ _ W hs hp h⟩))
      · by_cases h39 : s[p].toNat = 39
        · exact .inr (.inr (.inr (.inl ⟨fun W h => teller_character s b p _ _ W hs h hp hsm hdg h35 h39, fun W h hk hg => by rw [tok_char hsm hdg h39]; exact character_c s b p _ _ W hs hp h⟩)))
        · by_cases h34 : s[p].toNat = 34
          · exact .inr (.inr (.inr (.inr (.inl ⟨fun W h => teller_text s b p _ _ W hs h hp hsm hdg h35 h39 h34, fun W h hk hg => by rw [tok_text hsm hdg h34]; exact text_c s b p _ _ W hs hp h⟩))))
          · exact .inr (.inr (.inr (.inr (.inr ⟨fun W h => teller_sign s b p _ _ W hs h hp hsm hdg h35 h39 h34, fun W h hk hg => by rw [tok_sign hsm hdg ⟨h35, h39, h34⟩, ← htl]; exact sign_c s b p sb so sc _ W hs hp h hsb hg⟩))))
end Go.Proofs.YtpcepfoebkmbgaaDoor
