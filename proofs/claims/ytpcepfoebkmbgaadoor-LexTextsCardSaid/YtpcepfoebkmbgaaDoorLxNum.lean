/- How a number is written: both sides; the tables that the library reads. -/
import Derived.Test.YtpcepfoebkmbgaaDoorLxFmt
import Derived.Test.YtpcepfoebkmbgaaDoorShelf
namespace Go.Proofs.YtpcepfoebkmbgaaDoor
open Go.RowKit
set_option linter.unusedVariables false
/-- the library's tables, as far as they are read -/
def Tab (w : World) : Prop := Lib.TabIs Tryd.prog w "internal/strconv.uint64pow10" .u64 Lib.pow10Tab ∧ w.cell? ⟨2, 15, none⟩ = some (.int .u8 4)
theorem gPow : Tryd.prog.globalNamed "internal/strconv.uint64pow10" = some 0 := by kernel_rfl
theorem Tab.keep {w w' : World} (h : Tab w) (hb : Below w.heap.size w w') : Tab w' := by
  obtain ⟨h1, h2⟩ := h
  have h3 := World.block_lt_of_cell? w _ (h1.cell gPow 0 (by decide))
  exact ⟨var?_below hb gPow h3 h1, (hb.cell (p := ⟨2, 15, none⟩) (World.block_lt_of_cell? w _ h2)).trans h2⟩
theorem below_grow (w : World) (k : Nat) (os : Array Obj) : Below w.heap.size w (Sort.grow (w.drewN k) os) :=
  ⟨rfl, rfl, rfl, by simp [Sort.grow], fun i hi => by simp [Sort.grow]; rw [Array.getElem?_append_left (by simpa using hi)]⟩
namespace LX
/-- a number's token, or the error -/
def numberR (n : Int) : Bs × Nat := if n < -2147483648 ∨ 2147483647 < n then ([], 1) else (numW n, 0)
theorem numberR_bad {n : Int} (h : n < -2147483648 ∨ 2147483647 < n) : numberR n = ([], 1) := by unfold numberR; rw [if_pos h]
theorem numberR_neg {n : Int} {u : Nat} (h : -2147483648 ≤ n) (h2 : n < 0) (hu : n + 4294967296 = (u : Int)) : numberR n = (35 :: dig 16 u, 0) := by
  unfold numberR numW; rw [if_neg (by omega), if_pos h2, hu]; simp
theorem numberR_pos {n : Int} {u : Nat} (h : n ≤ 2147483647) (hu : n = (u : Int)) : numberR n = (dig 10 u, 0) := by
  unfold numberR numW; rw [if_neg (by omega), if_neg (by omega), hu]; simp
end LX
theorem dig_len_ten (m : Nat) : 1 ≤ (LX.dig 10 m).length := by
  have := LX.dig_ne 10 m
  cases hx : LX.dig 10 m with
  | nil => exact absurd hx this
  | cons _ _ => simp
def NumE (n : Int) (e : Ending) : Prop := e = .returned (.tuple #[.string ⟨(LX.numberR n).1.toArray⟩, .int .i64 ((LX.numberR n).2 : Int)])
theorem NumE.mk {n : Int} {l : LX.Bs} {k : Nat} {v x : Value} (h : LX.numberR n = (l, k)) (hv : v = .string ⟨l.toArray⟩) (hx : x = .int .i64 (k : Int)) : NumE n (.returned (.tuple #[v, x])) := by
  subst hv hx; unfold NumE; rw [h]
theorem FormatUint_i (u : Nat) (w : World) (h0 : 2147483648 ≤ u) (h1 : u ≤ 4294967295) (ht : Tab w) :
    Calls Tryd.prog 30 #[.int .u64 (u : Int), .int .i64 16] w fun e w' => e = .returned (.string ⟨(LX.dig 16 u).toArray⟩) ∧ Below w.heap.size w w' := by
  have HC := Lib.hid (formatBits_c u w h0 h1 ht.2)
  clear ht
  go_enter Tryd.func30, Tryd.ntmps30
  go_wp2_with (go_at_call 53; refine HC.out.mono ?_; rintro e w' ⟨rfl, hb⟩)
  go_ret
  exact ⟨rfl, hb⟩
theorem FormatUint_c (u : Nat) (w : World) (h0 : 2147483648 ≤ u) (h1 : u ≤ 4294967295) (ht : Tab w) :
    Calls Tryd.prog 18 #[.int .u64 (u : Int), .int .i64 16] w fun e w' => e = .returned (.string ⟨(LX.dig 16 u).toArray⟩) ∧ Below w.heap.size w w' := by
  have HC := Lib.hid (FormatUint_i u w h0 h1 ht)
  clear ht
  go_enter Tryd.func18, Tryd.ntmps18
  go_wp2_with (go_at_call 30; refine HC.out.mono ?_; rintro e w' ⟨rfl, hb⟩)
  go_ret
  exact ⟨rfl, hb⟩
theorem Itoa_c (u : Nat) (w : World) (h1 : u ≤ 4294967295) (ht : Tab w) :
    Calls Tryd.prog 17 #[.int .i64 (u : Int)] w fun e w' => e = .returned (.string ⟨(LX.dig 10 u).toArray⟩) ∧ Below w.heap.size w w' := by
  refine (Tryd.strconv_Itoa (u : Int) (by omega) (by omega) w ht.1).mono ?_
  rintro e w' ⟨rfl, k, os, rfl⟩
  refine ⟨?_, below_grow _ _ _⟩
  unfold Lib.itoa
  rw [if_neg (by omega), Int.toNat_natCast, LX.dig_dec]
theorem Number_c (n : Int) (w : World) (h0 : -9223372036854775808 ≤ n) (h1 : n ≤ 9223372036854775807) (ht : Tab w) :
    Calls Tryd.prog 9 #[.int .i64 n] w fun e w' => NumE n e ∧ Below w.heap.size w w' := by
  by_cases hlo : n < -2147483648
  · have hr := Lib.hid (LX.numberR_bad (.inl hlo))
    clear ht
    go_enter Tryd.func9, Tryd.ntmps9
    go_wp2
    all_goals (go_ret2; exact ⟨NumE.mk hr.out rfl rfl, Below.refl _ _⟩)
  by_cases hhi : 2147483647 < n
  · have hr := Lib.hid (LX.numberR_bad (.inr hhi))
    clear ht
    go_enter Tryd.func9, Tryd.ntmps9
    go_wp2
    all_goals (go_ret2; exact ⟨NumE.mk hr.out rfl rfl, Below.refl _ _⟩)
  by_cases hneg : n < 0
  · obtain ⟨u, hu⟩ : ∃ u : Nat, n + 4294967296 = (u : Int) := ⟨(n + 4294967296).toNat, by omega⟩
    have hr := Lib.hid (LX.numberR_neg (by omega) hneg hu)
    have hu1 : 2147483648 ≤ u := by omega
    have hu2 : u ≤ 4294967295 := by omega
    have hw : IntKind.u32.wrap n = (u : Int) := by simp [IntKind.wrap, IntKind.signed, IntKind.bits]; omega
    have HC := Lib.hid (FormatUint_c u w hu1 hu2 ht)
    have hlen := LX.dig_len16 u hu2
    obtain ⟨B, hB⟩ : ∃ B, LX.dig 16 u = B := ⟨_, rfl⟩
    rw [hB] at hr HC hlen
    clear ht hu hB
    go_enter Tryd.func9, Tryd.ntmps9
    go_wp2_with (go_at_call 18; refine HC.out.mono ?_; rintro e w' ⟨rfl, hb⟩)
    all_goals (go_ret2; exact ⟨NumE.mk hr.out (congrArg Value.string (bs_cat2 [35] B)) rfl, hb⟩)
  · obtain ⟨u, hu⟩ : ∃ u : Nat, n = (u : Int) := ⟨n.toNat, by omega⟩
    have hr := Lib.hid (LX.numberR_pos (by omega) hu)
    have HC := Lib.hid (Itoa_c u w (by omega) ht)
    subst hu
    clear ht
    go_enter Tryd.func9, Tryd.ntmps9
    go_wp2_with (go_at_call 17; refine HC.out.mono ?_; rintro e w' ⟨rfl, hb⟩)
    all_goals (go_ret2; exact ⟨NumE.mk hr.out rfl rfl, hb⟩)
theorem refNumber_c (n : Int) (w : World) (h0 : -9223372036854775808 ≤ n) (h1 : n ≤ 9223372036854775807) :
    Calls Tryd.prog 10 #[.int .i64 n] w fun e w' => NumE n e ∧ Below w.heap.size w w' := by
  by_cases hlo : n < -2147483648
  · have hr := Lib.hid (LX.numberR_bad (.inl hlo))
    go_enter Tryd.func10, Tryd.ntmps10
    go_wp2
    all_goals (go_ret2; exact ⟨NumE.mk hr.out rfl rfl, Below.refl _ _⟩)
  by_cases hhi : 2147483647 < n
  · have hr := Lib.hid (LX.numberR_bad (.inr hhi))
    go_enter Tryd.func10, Tryd.ntmps10
    go_wp2
    all_goals (go_ret2; exact ⟨NumE.mk hr.out rfl rfl, Below.refl _ _⟩)
  by_cases hneg : n < 0
  · obtain ⟨u, hu⟩ : ∃ u : Nat, n + 4294967296 = (u : Int) := ⟨(n + 4294967296).toNat, by omega⟩
    have hr := Lib.hid (LX.numberR_neg (by omega) hneg hu)
    have hu1 : 2147483648 ≤ u := by omega
    have hu2 : u ≤ 4294967295 := by omega
    have hlen := LX.dig16_full u (by omega) hu2
    have HC := Lib.hid (digits_c 16 u 8 16 (n + 4294967296) 8 rfl hu rfl w (by decide) (by decide) hu2 (by decide) (by omega) (by omega))
    have hlen2 := LX.dig_len16 u hu2
    obtain ⟨B, hB⟩ : ∃ B, LX.dig 16 u = B := ⟨_, rfl⟩
    rw [hB] at hr HC hlen2
    clear hu hB hlen
    go_enter Tryd.func10, Tryd.ntmps10
    go_wp2_with (go_at_call 19; refine HC.out.mono ?_; rintro e w' ⟨rfl, hb⟩)
    all_goals (go_ret2; exact ⟨NumE.mk hr.out (congrArg Value.string (bs_cat2 [35] B)) rfl, hb⟩)
  · obtain ⟨u, hu⟩ : ∃ u : Nat, n = (u : Int) := ⟨n.toNat, by omega⟩
    have hr := Lib.hid (LX.numberR_pos (by omega) hu)
    have hl1 := LX.dig_len10 u (by omega)
    have hl2 := dig_len_ten u
    have HC := Lib.hid (digits_c 10 u 1 10 n 1 rfl hu rfl w (by decide) (by decide) (by omega) (by decide) hl2 (by omega))
    clear hu hl1 hl2
    go_enter Tryd.func10, Tryd.ntmps10
    go_wp2_with (go_at_call 19; refine HC.out.mono ?_; rintro e w' ⟨rfl, hb⟩)
    all_goals (go_ret2; exact ⟨NumE.mk hr.out rfl rfl, hb⟩)
end Go.Proofs.YtpcepfoebkmbgaaDoor
