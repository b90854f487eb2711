/- The program's Line. -/
import Derived.Test.YtpcepfoebkmbgaaLxLine
namespace Go.Proofs.Ytpcepfoebkmbgaa
open Go.RowKit
set_option linter.unusedVariables false
set_option maxHeartbeats 1000000 in
theorem lastStr_c (s : ByteArray) (w : World) (hs : s.size ≤ 140737488351232) :
    Calls Try.prog 58 #[.string s, .int .u8 10] w fun e w' => e = .returned (.int .i64 ((s.size : Int) - 1 - ((lnG (bs s)).2 : Int))) ∧ Below w.heap.size w w' := by
  have hst0 : (bs s).take s.size = bs s := by rw [← bs_len, List.take_length]
  go_enter Try.func58, Try.ntmps58
  go_wp2
  go_loopw [5] (fun i wr => ∃ k : Nat, k ≤ s.size ∧ i = .int .i64 ((k : Int) - 1) ∧ Hid ((lnG (bs s)).2 = (s.size - k) + (lnG ((bs s).take k)).2) ∧ Below w.heap.size w wr) (fun i _ => (intOf i + 1).toNat)
  case atStart => exact ⟨s.size, Nat.le_refl _, by first | rfl | go_num, (show _ = _ by rw [hst0]; omega), Below.refl _ _⟩
  case round =>
    obtain ⟨k, hk, rfl, hh, hb⟩ := hrel
    cases k with
    | zero =>
      have g1 : decide ((0 : Int) ≤ ((0 : Nat) : Int) - 1) = false := by decide
      have hr : ((lnG (bs s)).2 : Int) = (s.size : Int) := by have h1 := hh.out; have h2 : (lnG ((bs s).take 0)).2 = 0 := rfl; omega
      go_wp2
      go_ret
      refine ⟨?_, hb⟩
      rw [hr]; first | rfl | go_num | (congr 2; omega)
    | succ j =>
      have hks : j < s.size := by omega
      have hst := lnG_take (bs s) j (by rw [bs_len]; exact hks)
      rw [bs_get s j hks] at hst
      have e0 : (((j + 1 : Nat) : Int) - 1) = (j : Int) := by omega
      rw [e0]
      have j0 : (0 : Int) ≤ (j : Int) := by omega
      have j1 : (j : Int) < (s.size : Int) := by omega
      by_cases h10 : s[j].toNat = 10
      · have hb10 : s[j] = 10 := UInt8.toNat_inj.1 h10
        have hr : ((lnG (bs s)).2 : Int) = (s.size : Int) - 1 - (j : Int) := by
          have h1 := hh.out; rw [hst] at h1; simp [lnStep, hb10] at h1; omega
        have e1 := eqT (c := s[j]) 10 (by omega)
        clear hst h10 hb10
        go_wp2
        go_ret
        refine ⟨?_, hb⟩
        rw [hr]; first | rfl | go_num | (congr 2; omega)
      · have hb10 : ¬ s[j] = 10 := fun h => h10 (by rw [h]; rfl)
        have HH : Hid ((lnG (bs s)).2 = (s.size - j) + (lnG ((bs s).take j)).2) := by
          have h1 := hh.out; rw [hst] at h1; simp [lnStep, hb10] at h1; show _ = _; omega
        have e1 := eqF (c := s[j]) 10 (by omega)
        clear hst h10 hb10
        go_wp2
        go_roundw
        case rel => exact ⟨j, by omega, by first | rfl | go_num, HH, hb⟩
        case measure => simp [intOf]; try omega
set_option maxHeartbeats 1000000 in
theorem last_c (s : ByteArray) (w : World) (hs : s.size ≤ 140737488351232) :
    Calls Try.prog 35 #[.string s, .int .u8 10] w fun e w' => e = .returned (.int .i64 ((s.size : Int) - 1 - ((lnG (bs s)).2 : Int))) ∧ Below w.heap.size w w' := by
  have HC := Lib.hid (fun W => lastStr_c s W hs)
  go_enter Try.func35, Try.ntmps35
  go_wp2_with (go_at_call 58; refine (HC.out _).mono ?_; rintro e w1 ⟨rfl, hb1⟩)
  go_ret
  exact ⟨rfl, hb1⟩
theorem count_bs (s : ByteArray) : (Lib.countByte s.data.toList 10 : Int) = ((lnG (bs s)).1 : Int) := by
  have h := lnG_count (bs s) 0 0
  unfold lnG
  rw [h, Nat.zero_add]; rfl
set_option maxHeartbeats 1000000 in
theorem count_c (s : ByteArray) (w : World) :
    Calls Try.prog 34 #[.string s, .string ⟨#[10]⟩] w fun e w' => e = .returned (.int .i64 ((lnG (bs s)).1 : Int)) ∧ Below w.heap.size w w' := by
  rw [← count_bs]
  go_enter Try.func34, Try.ntmps34
  go_wp2
  rw [run_callFunc_extern Try.func56 (by kernel_rfl) (by kernel_rfl) (by kernel_rfl) (e := Extern.BytealgCount.count) (by kernel_rfl), Lib.run_countString]
  simp only [Result.andThen]
  rw [Oper.upon_value]
  go_wp2
  go_ret
  exact ⟨rfl, Below.refl _ _⟩
end Go.Proofs.Ytpcepfoebkmbgaa
