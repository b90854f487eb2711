/- The document's answer: how a number is written. -/
import Derived.Test.YtpcepfoebkmbgaaDoorLxTxM
import Derived.Test.YtpcepfoebkmbgaaDoorLxQuoR
import Derived.Test.YtpcepfoebkmbgaaDoorLxMText
namespace Go.Proofs.YtpcepfoebkmbgaaDoor
open Go.RowKit
set_option linter.unusedVariables false
namespace LX
def digF (b m : Nat) : Bs := if m = 0 then [] else dig b m
theorem dig_step {b : Nat} (hb : 2 ≤ b) (m : Nat) : dig b m = digF b (m / b) ++ [hexc (m % b)] := by
  by_cases h : m < b
  · rw [dig_small h, Nat.div_eq_of_lt h, Nat.mod_eq_of_lt h]; rfl
  · have h1 : m / b ≠ 0 := by
      have := Nat.div_pos (show b ≤ m by omega) (by omega); omega
    rw [dig_big h hb, digF, if_neg h1]
/-- acc has been written of n's digits; m is what is left -/
def DigAt (b n m : Nat) (acc : Bs) : Prop := (acc = [] ∧ m = n) ∨ (acc ≠ [] ∧ dig b n = digF b m ++ acc)
theorem DigAt.step {b n m : Nat} {acc : Bs} (hb : 2 ≤ b) (h : DigAt b n m acc) (hc : 0 < m ∨ acc = []) : DigAt b n (m / b) (hexc (m % b) :: acc) := by
  refine .inr ⟨by simp, ?_⟩
  rcases h with ⟨rfl, rfl⟩ | ⟨h1, h2⟩
  · exact dig_step hb m
  · have h0 : m ≠ 0 := by rcases hc with h | h; omega; exact absurd h h1
    rw [h2, digF, if_neg h0, dig_step hb m]; simp
theorem DigAt.le {b n m : Nat} {acc : Bs} (h : DigAt b n m acc) : acc.length ≤ (dig b n).length := by
  rcases h with ⟨rfl, rfl⟩ | ⟨h1, h2⟩
  · simp
  · rw [h2]; simp
theorem DigAt.done {b n m : Nat} {acc : Bs} (h : DigAt b n m acc) (hm : m = 0) (ha : acc ≠ []) : acc = dig b n := by
  rcases h with ⟨rfl, _⟩ | ⟨h1, h2⟩
  · exact absurd rfl ha
  · rw [h2, digF, if_pos hm]; rfl
theorem DigAt.le_m {b n m : Nat} {acc : Bs} (h : DigAt b n m acc) (hn : n ≤ 4294967295) (hm : m ≤ 4294967295) : m / b ≤ 4294967295 := by
  have := Nat.div_le_self m b; omega
end LX
def slen : Value → Nat
  | .string s => s.size
  | _ => 0
theorem slen_str (l : LX.Bs) : slen (.string ⟨l.toArray⟩) = l.length := by show (⟨l.toArray⟩ : ByteArray).size = _; simp [ByteArray.size]
theorem slen_cat (d : UInt8) (acc : LX.Bs) (N : Nat) (h : acc.length + 1 ≤ N) : N - slen (.string ((⟨[d].toArray⟩ : ByteArray) ++ ⟨acc.toArray⟩)) < N - slen (.string ⟨acc.toArray⟩) := by
  rw [bs_cat2, slen_str, slen_str]; simp; omega
theorem div_bd (m b N : Nat) (h : m / b ≤ N) : (0 : Int) ≤ (m : Int) / (b : Int) ∧ (m : Int) / (b : Int) ≤ (N : Int) := by rw [← Int.natCast_ediv]; exact ⟨Int.natCast_nonneg _, Int.ofNat_le.2 h⟩
theorem hex_at (d : Nat) (h : d < 16) : (⟨#[48, 49, 50, 51, 52, 53, 54, 55, 56, 57, 97, 98, 99, 100, 101, 102]⟩ : ByteArray)[d]'h = LX.hexc d := by
  have : ∀ d : Fin 16, (⟨#[48, 49, 50, 51, 52, 53, 54, 55, 56, 57, 97, 98, 99, 100, 101, 102]⟩ : ByteArray)[d.val]'d.isLt = LX.hexc d.val := by decide +kernel
  exact this ⟨d, h⟩
set_option maxHeartbeats 1000000 in
theorem digits_c (b n least : Nat) (bb nn ll : Int) (hbb : bb = b) (hnn : nn = n) (hll : ll = least) (w : World) (hb : 2 ≤ b) (hb2 : b ≤ 16) (hn : n ≤ 4294967295) (hl1 : 1 ≤ least) (hl2 : least ≤ (LX.dig b n).length) (hl3 : (LX.dig b n).length ≤ 40) :
    Calls Tryd.prog 19 #[.int .i64 nn, .int .i64 bb, .int .i64 ll] w fun e w' => e = .returned (.string ⟨(LX.dig b n).toArray⟩) ∧ Below w.heap.size w w' := by
  subst hbb hnn hll
  go_enter Tryd.func19, Tryd.ntmps19
  go_wp2
  go_loopw [0, 7] (fun x s wr => ∃ (m : Nat) (acc : LX.Bs), m ≤ 4294967295 ∧ x = .int .i64 m ∧ s = .string ⟨acc.toArray⟩ ∧ Hid (LX.DigAt b n m acc) ∧ Below w.heap.size w wr) (fun _ s _ => (LX.dig b n).length - slen s)
  case atStart => exact ⟨n, [], hn, rfl, rfl, .inl ⟨rfl, rfl⟩, Below.refl _ _⟩
  case round =>
    obtain ⟨m, acc, hm, rfl, rfl, hq, hbl⟩ := hrel
    have hle := hq.out.le
    by_cases hm0 : 0 < m
    · have hq2 : Hid (LX.DigAt b n (m / b) (LX.hexc (m % b) :: acc)) := hq.out.step hb (.inl hm0)
      have hm2 := hq.out.le_m hn hm
      have hle2 := hq2.out.le
      have hmod := Nat.mod_lt m (show 0 < b by omega)
      have hcv := conv_one wr ((⟨#[48, 49, 50, 51, 52, 53, 54, 55, 56, 57, 97, 98, 99, 100, 101, 102]⟩ : ByteArray)[m % b]'(by show m % b < 16; omega))
      have hx : Hid ((⟨#[48, 49, 50, 51, 52, 53, 54, 55, 56, 57, 97, 98, 99, 100, 101, 102]⟩ : ByteArray)[m % b]'(by show m % b < 16; omega) = LX.hexc (m % b)) := hex_at (m % b) (by omega)
      have d1 : (0 : Int) ≤ (m : Int) / (b : Int) ∧ (m : Int) / (b : Int) ≤ 4294967295 := div_bd m b 4294967295 hm2
      simp only [List.length_cons] at hle2
      go_wp2
      all_goals first
        | (exfalso; simp_all; done)
        | (exfalso; simp_all; omega)
        | (go_roundw
           case rel => exact ⟨m / b, LX.hexc (m % b) :: acc, hm2, congrArg (Value.int .i64) (Int.natCast_ediv m b).symm, by rw [hx.out]; exact congrArg Value.string (bs_cat2 [LX.hexc (m % b)] acc), hq2, Below.alloc hbl hbl.size _⟩
           case measure => exact slen_cat _ _ _ hle2)
    · obtain rfl : m = 0 := by omega
      by_cases ha : acc = []
      · subst ha
        have hq2 : Hid (LX.DigAt b n (0 / b) (LX.hexc (0 % b) :: [])) := hq.out.step hb (.inr rfl)
        have hle2 := hq2.out.le
        have hcv := conv_one wr ((⟨#[48, 49, 50, 51, 52, 53, 54, 55, 56, 57, 97, 98, 99, 100, 101, 102]⟩ : ByteArray)[0]'(by decide))
        have g1 : (0 : Int) < (least : Int) := by omega
        rw [show ((0 : Nat) : Int) = 0 from rfl]
        have hz : 0 % b = 0 := Nat.zero_mod b
        have hzd : 0 / b = 0 := Nat.zero_div b
        rw [hz, hzd] at hq2
        have hmb : (0 : Int) % (b : Int) = 0 := Int.zero_emod _
        have hdb : (0 : Int) / (b : Int) = 0 := Int.zero_ediv _
        go_wp2
        all_goals first
          | (exfalso; simp_all; done)
          | (exfalso; simp_all; omega)
          | (go_roundw
             case rel => exact ⟨0, LX.hexc 0 :: [], by omega, by simp, congrArg Value.string (bs_cat2 [_] []), hq2, Below.alloc hbl hbl.size _⟩
             case measure => exact slen_cat 48 [] _ hle2)
      · have hd := hq.out.done rfl ha
        have g1 : ¬ (acc.length < least) := by rw [hd]; omega
        have HD := Lib.hid hd
        have g2 : decide (acc.length < least) = false := by rw [decide_eq_false_iff_not]; exact g1
        clear hd ha
        go_wp2
        go_ret
        exact ⟨by rw [HD.out]; rfl, hbl⟩
end Go.Proofs.YtpcepfoebkmbgaaDoor
