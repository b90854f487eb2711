/- The document's answer: signs. -/
import Derived.Test.YtpcepfoebkmbgaaLxRefC
import Derived.Deep.RegionHeld3
import Derived.Deep.DrawnRows
import Derived.IntWalk
namespace Go.Proofs.Ytpcepfoebkmbgaa
open Go.RowKit
set_option linter.unusedVariables false
theorem take_short (s : ByteArray) (k n : Nat) (h : s.size ≤ k + n) : (tl s k).take n = tl s k := List.take_of_length_le (by rw [tl_len]; omega)
theorem sign_two {s : ByteArray} {k : Nat} (h : k + 2 ≤ s.size) (hin : (tl s k).take 2 ∈ LX.signL) : LX.signR (tl s k) = .good 5 ((tl s k).take 2) 0 2 := by
  unfold LX.signR; rw [if_pos hin]
  have : ((tl s k).take 2).length = 2 := by rw [List.length_take, tl_len]; omega
  rw [this]
theorem sign_one {s : ByteArray} {k : Nat} (hk : k < s.size) (h : (tl s k).take 2 ∉ LX.signL ∨ ¬ k + 2 ≤ s.size) (hin : (tl s k).take 1 ∈ LX.signL) : LX.signR (tl s k) = .good 5 ((tl s k).take 1) 0 1 := by
  unfold LX.signR
  rcases h with h | h
  · rw [if_neg h, if_pos hin]
  · have e : (tl s k).take 2 = (tl s k).take 1 := by rw [take_short s k 2 (by omega), take_short s k 1 (by omega)]
    rw [e, if_pos hin]
    have : ((tl s k).take 1).length = 1 := by rw [List.length_take, tl_len]; omega
    rw [this]
theorem sign_bad {s : ByteArray} {k : Nat} (hk : k < s.size) (h : (tl s k).take 2 ∉ LX.signL ∨ ¬ k + 2 ≤ s.size) (hin : (tl s k).take 1 ∉ LX.signL) : LX.signR (tl s k) = .bad 20 := by
  unfold LX.signR
  rcases h with h | h
  · rw [if_neg h, if_neg hin]
  · have e : (tl s k).take 2 = (tl s k).take 1 := by rw [take_short s k 2 (by omega), take_short s k 1 (by omega)]
    rw [e, if_neg hin, if_neg hin]
attribute [local go_sem ↓] Go.wp_at_zero Go.wp_at_succ
set_option maxHeartbeats 1000000 in
theorem refSign_c (s : ByteArray) (k : Nat) (w : World) (hs : s.size ≤ 1000000) (hk : k < s.size) :
    Calls Try.prog 52 #[.string s, .int .i64 (k : Nat)] w fun e w' => TokR (LX.signR (tl s k)) k e ∧ Below w.heap.size w w' := by
  have HX2 : Hid (bs (s.extract k (k + 2)) = (tl s k).take 2) := ext_take s k _ 2 rfl
  have HX1 : Hid (bs (s.extract k (k + 1)) = (tl s k).take 1) := ext_take s k _ 1 rfl
  have HC2 := Lib.hid (fun (v : Value) (W : World) (hv : RdS W v LX.signL) => has_c v LX.signL (bs (s.extract k (k + 2))) W hv)
  have HC1 := Lib.hid (fun (v : Value) (W : World) (hv : RdS W v LX.signL) => has_c v LX.signL (bs (s.extract k (k + 1))) W hv)
  rw [← bs_str] at HC2 HC1
  have g3 : (0 : Int) ≤ (k : Int) := by omega
  have HK : Hid (k < s.size) := hk
  by_cases h2 : k + 2 ≤ s.size
  · by_cases hin2 : (tl s k).take 2 ∈ LX.signL
    · have hr : Hid (LX.signR (tl s k) = .good 5 ((tl s k).take 2) 0 2) := sign_two h2 hin2
      have hd2 : decide (bs (s.extract k (k + 2)) ∈ LX.signL) = true := by rw [HX2.out]; simpa using hin2
      rw [hd2] at HC2
      have HX' : Hid (s.extract k (k + 2) = ⟨((tl s k).take 2).toArray⟩) := by show _ = _; rw [← HX2.out, ← bs_str]
      clear hin2 hd2 HC1 HX1
      have g1 : decide ((k : Int) + 2 ≤ (s.size : Int)) = true := by rw [decide_eq_true_iff]; omega
      have g2 : (k : Int) + 2 ≤ (s.size : Int) := by omega
      have g4 : (0 : Int) ≤ (k : Int) + 2 := by omega
      have g5 : ((k : Int) + 2).toNat = k + 2 := by omega
      have g7 : (k : Int) ≤ (k : Int) + 2 := by omega
      have g6 : IntKind.i64.wrap ((k : Int) + 2) = (k : Int) + 2 := IntWalk.i64_in _ (by omega)
      go_enter Try.func52, Try.ntmps52
      go_wp2
      refine wp_loop_rounds 1 ?_
      rw [rounds_succ]
      go_wp2
      go_region_held3 (fun _ => True) (trivial) (first | (go_at_call 18; refine (refSigns_c _).mono ?_; rintro e w1 ⟨v1, rfl, hr1, hb1⟩; have HR1 := Lib.hid hr1; clear hr1) | (go_at_call 32; refine (HC2.out _ _ HR1.out).mono ?_; rintro e w' ⟨rfl, rfl⟩))
      clear g1 g2 g4 g5 g6 g7
      obtain ⟨hc1, hf1⟩ := bcell hb1
      have hz1 : w.heap.size < w1.heap.size := by have := hb1.size; simp at this; omega
      have r10 : w1.cell? ⟨w.heap.size, 0, none⟩ = some (.int .i64 0) := (hc1 w.heap.size 0 (by simp; try omega)).trans (by simp)
      have r11 : w1.cell? ⟨w.heap.size, 1, none⟩ = some (.string ⟨#[]⟩) := (hc1 w.heap.size 1 (by simp; try omega)).trans (by simp)
      have r12 : w1.cell? ⟨w.heap.size, 2, none⟩ = some (.int .i64 0) := (hc1 w.heap.size 2 (by simp; try omega)).trans (by simp)
      have r13 : w1.cell? ⟨w.heap.size, 3, none⟩ = some (.int .i64 0) := (hc1 w.heap.size 3 (by simp; try omega)).trans (by simp)
      have r14 : ∀ o, w1.frozen? ⟨w.heap.size, o, none⟩ = false := fun o => (hf1 w.heap.size o (by simp; try omega)).trans (by simp)
      clear hc1 hf1
      go_wp2
      exact bodyPost_ret (v := .tuple #[.agg #[.int .i64 5, .string (s.extract k (k + 2)), .int .i64 0, .int .i64 (k : Int)], .int .i64 ((k : Int) + 2), .int .i64 0]) (by simp [results, Try.results52, go_sem, r10, r11, r12, r13]) rfl ⟨.good hr.out rfl HX'.out rfl (by omega), (by repeat (first | exact Below.refl _ _ | exact below_alloc _ _ | refine Below.setCell ?_ (by simp) _ | refine below_back (by assumption) ?_ | refine Below.drew ?_ | refine below_drewN ?_ _ | refine Below.alloc ?_ (by first | exact Nat.le_refl _ | (simp; done) | (simp; omega)) _))⟩
    · have hno : Hid ((tl s k).take 2 ∉ LX.signL ∨ ¬ k + 2 ≤ s.size) := .inl hin2
      have hd2 : decide (bs (s.extract k (k + 2)) ∈ LX.signL) = false := by rw [HX2.out]; simpa using hin2
      rw [hd2] at HC2
      clear hin2 hd2
      by_cases hin1 : (tl s k).take 1 ∈ LX.signL
      · have hr : Hid (LX.signR (tl s k) = .good 5 ((tl s k).take 1) 0 1) := sign_one hk hno.out hin1
        have hd1 : decide (bs (s.extract k (k + 1)) ∈ LX.signL) = true := by rw [HX1.out]; simpa using hin1
        rw [hd1] at HC1
        have HX1' : Hid (s.extract k (k + 1) = ⟨((tl s k).take 1).toArray⟩) := by show _ = _; rw [← HX1.out, ← bs_str]
        clear hin1 hd1
        have g1 : decide ((k : Int) + 2 ≤ (s.size : Int)) = true := by rw [decide_eq_true_iff]; omega
        have g2 : (k : Int) + 2 ≤ (s.size : Int) := by omega
        have g4 : (0 : Int) ≤ (k : Int) + 2 := by omega
        have g5 : ((k : Int) + 2).toNat = k + 2 := by omega
        have g7 : (k : Int) ≤ (k : Int) + 2 := by omega
        have g6 : IntKind.i64.wrap ((k : Int) + 2) = (k : Int) + 2 := IntWalk.i64_in _ (by omega)
        go_enter Try.func52, Try.ntmps52
        go_wp2
        refine wp_loop_rounds 3 ?_
        rw [rounds_succ]
        go_wp2
        go_region_held3 (fun _ => True) (trivial) (first | (go_at_call 18; refine (refSigns_c _).mono ?_; rintro e w1 ⟨v1, rfl, hr1, hb1⟩; have HR1 := Lib.hid hr1; clear hr1) | (go_at_call 32; refine (HC2.out _ _ HR1.out).mono ?_; rintro e w' ⟨rfl, rfl⟩))
        clear g1 g2 g4 g5 g6 g7
        obtain ⟨hc1, hf1⟩ := bcell hb1
        have hz1 : w.heap.size < w1.heap.size := by have := hb1.size; simp at this; omega
        have r10 : w1.cell? ⟨w.heap.size, 0, none⟩ = some (.int .i64 0) := (hc1 w.heap.size 0 (by simp; try omega)).trans (by simp)
        have r11 : w1.cell? ⟨w.heap.size, 1, none⟩ = some (.string ⟨#[]⟩) := (hc1 w.heap.size 1 (by simp; try omega)).trans (by simp)
        have r12 : w1.cell? ⟨w.heap.size, 2, none⟩ = some (.int .i64 0) := (hc1 w.heap.size 2 (by simp; try omega)).trans (by simp)
        have r13 : w1.cell? ⟨w.heap.size, 3, none⟩ = some (.int .i64 0) := (hc1 w.heap.size 3 (by simp; try omega)).trans (by simp)
        have r14 : ∀ o, w1.frozen? ⟨w.heap.size, o, none⟩ = false := fun o => (hf1 w.heap.size o (by simp; try omega)).trans (by simp)
        clear hc1 hf1
        go_wp2
        rw [rounds_succ]
        go_wp2
        have g1 : decide ((k : Int) + 1 ≤ (s.size : Int)) = true := by rw [decide_eq_true_iff]; omega
        have g2 : (k : Int) + 1 ≤ (s.size : Int) := by omega
        have g4 : (0 : Int) ≤ (k : Int) + 1 := by omega
        have g5 : ((k : Int) + 1).toNat = k + 1 := by omega
        have g7 : (k : Int) ≤ (k : Int) + 1 := by omega
        have g6 : IntKind.i64.wrap ((k : Int) + 1) = (k : Int) + 1 := IntWalk.i64_in _ (by omega)
        go_region_held3 (fun _ => True) (trivial) (first | (go_at_call 18; refine (refSigns_c _).mono ?_; rintro e w2 ⟨v2, rfl, hr2, hb2⟩; have HR2 := Lib.hid hr2; clear hr2) | (go_at_call 32; refine (HC1.out _ _ HR2.out).mono ?_; rintro e w' ⟨rfl, rfl⟩))
        clear g1 g2 g4 g5 g6 g7
        obtain ⟨hc2, hf2⟩ := bcell hb2
        have hz2 : w.heap.size < w2.heap.size := by have := hb2.size; simp at this; omega
        have r20 : w2.cell? ⟨w.heap.size, 0, none⟩ = some (.int .i64 0) := (hc2 w.heap.size 0 (by simp; try omega)).trans (r10)
        have r21 : w2.cell? ⟨w.heap.size, 1, none⟩ = some (.string ⟨#[]⟩) := (hc2 w.heap.size 1 (by simp; try omega)).trans (r11)
        have r22 : w2.cell? ⟨w.heap.size, 2, none⟩ = some (.int .i64 0) := (hc2 w.heap.size 2 (by simp; try omega)).trans (r12)
        have r23 : w2.cell? ⟨w.heap.size, 3, none⟩ = some (.int .i64 0) := (hc2 w.heap.size 3 (by simp; try omega)).trans (r13)
        have r24 : ∀ o, w2.frozen? ⟨w.heap.size, o, none⟩ = false := fun o => (hf2 w.heap.size o (by simp; try omega)).trans (r14 o)
        clear hc2 hf2
        go_wp2
        exact bodyPost_ret (v := .tuple #[.agg #[.int .i64 5, .string (s.extract k (k + 1)), .int .i64 0, .int .i64 (k : Int)], .int .i64 ((k : Int) + 1), .int .i64 0]) (by simp [results, Try.results52, go_sem, r20, r21, r22, r23]) rfl ⟨.good hr.out rfl HX1'.out rfl (by omega), (by repeat (first | exact Below.refl _ _ | exact below_alloc _ _ | refine Below.setCell ?_ (by simp) _ | refine below_back (by assumption) ?_ | refine Below.drew ?_ | refine below_drewN ?_ _ | refine Below.alloc ?_ (by first | exact Nat.le_refl _ | (simp; done) | (simp; omega)) _))⟩
      · have hr : Hid (LX.signR (tl s k) = .bad 20) := sign_bad hk hno.out hin1
        have hd1 : decide (bs (s.extract k (k + 1)) ∈ LX.signL) = false := by rw [HX1.out]; simpa using hin1
        rw [hd1] at HC1
        clear hin1 hd1
        have g1 : decide ((k : Int) + 2 ≤ (s.size : Int)) = true := by rw [decide_eq_true_iff]; omega
        have g2 : (k : Int) + 2 ≤ (s.size : Int) := by omega
        have g4 : (0 : Int) ≤ (k : Int) + 2 := by omega
        have g5 : ((k : Int) + 2).toNat = k + 2 := by omega
        have g7 : (k : Int) ≤ (k : Int) + 2 := by omega
        have g6 : IntKind.i64.wrap ((k : Int) + 2) = (k : Int) + 2 := IntWalk.i64_in _ (by omega)
        go_enter Try.func52, Try.ntmps52
        go_wp2
        refine wp_loop_rounds 3 ?_
        rw [rounds_succ]
        go_wp2
        go_region_held3 (fun _ => True) (trivial) (first | (go_at_call 18; refine (refSigns_c _).mono ?_; rintro e w1 ⟨v1, rfl, hr1, hb1⟩; have HR1 := Lib.hid hr1; clear hr1) | (go_at_call 32; refine (HC2.out _ _ HR1.out).mono ?_; rintro e w' ⟨rfl, rfl⟩))
        clear g1 g2 g4 g5 g6 g7
        obtain ⟨hc1, hf1⟩ := bcell hb1
        have hz1 : w.heap.size < w1.heap.size := by have := hb1.size; simp at this; omega
        have r10 : w1.cell? ⟨w.heap.size, 0, none⟩ = some (.int .i64 0) := (hc1 w.heap.size 0 (by simp; try omega)).trans (by simp)
        have r11 : w1.cell? ⟨w.heap.size, 1, none⟩ = some (.string ⟨#[]⟩) := (hc1 w.heap.size 1 (by simp; try omega)).trans (by simp)
        have r12 : w1.cell? ⟨w.heap.size, 2, none⟩ = some (.int .i64 0) := (hc1 w.heap.size 2 (by simp; try omega)).trans (by simp)
        have r13 : w1.cell? ⟨w.heap.size, 3, none⟩ = some (.int .i64 0) := (hc1 w.heap.size 3 (by simp; try omega)).trans (by simp)
        have r14 : ∀ o, w1.frozen? ⟨w.heap.size, o, none⟩ = false := fun o => (hf1 w.heap.size o (by simp; try omega)).trans (by simp)
        clear hc1 hf1
        go_wp2
        rw [rounds_succ]
        go_wp2
        have g1 : decide ((k : Int) + 1 ≤ (s.size : Int)) = true := by rw [decide_eq_true_iff]; omega
        have g2 : (k : Int) + 1 ≤ (s.size : Int) := by omega
        have g4 : (0 : Int) ≤ (k : Int) + 1 := by omega
        have g5 : ((k : Int) + 1).toNat = k + 1 := by omega
        have g7 : (k : Int) ≤ (k : Int) + 1 := by omega
        have g6 : IntKind.i64.wrap ((k : Int) + 1) = (k : Int) + 1 := IntWalk.i64_in _ (by omega)
        go_region_held3 (fun _ => True) (trivial) (first | (go_at_call 18; refine (refSigns_c _).mono ?_; rintro e w2 ⟨v2, rfl, hr2, hb2⟩; have HR2 := Lib.hid hr2; clear hr2) | (go_at_call 32; refine (HC1.out _ _ HR2.out).mono ?_; rintro e w' ⟨rfl, rfl⟩))
        clear g1 g2 g4 g5 g6 g7
        obtain ⟨hc2, hf2⟩ := bcell hb2
        have hz2 : w.heap.size < w2.heap.size := by have := hb2.size; simp at this; omega
        have r20 : w2.cell? ⟨w.heap.size, 0, none⟩ = some (.int .i64 0) := (hc2 w.heap.size 0 (by simp; try omega)).trans (r10)
        have r21 : w2.cell? ⟨w.heap.size, 1, none⟩ = some (.string ⟨#[]⟩) := (hc2 w.heap.size 1 (by simp; try omega)).trans (r11)
        have r22 : w2.cell? ⟨w.heap.size, 2, none⟩ = some (.int .i64 0) := (hc2 w.heap.size 2 (by simp; try omega)).trans (r12)
        have r23 : w2.cell? ⟨w.heap.size, 3, none⟩ = some (.int .i64 0) := (hc2 w.heap.size 3 (by simp; try omega)).trans (r13)
        have r24 : ∀ o, w2.frozen? ⟨w.heap.size, o, none⟩ = false := fun o => (hf2 w.heap.size o (by simp; try omega)).trans (r14 o)
        clear hc2 hf2
        go_wp2
        rw [rounds_succ]
        go_wp2
        exact bodyPost_ret (v := .tuple #[.agg #[.int .i64 0, .string ⟨#[]⟩, .int .i64 0, .int .i64 0], .int .i64 (k : Int), .int .i64 20]) (by simp [results, Try.results52, go_sem, r20, r21, r22, r23]) rfl ⟨.bad hr.out rfl rfl, (by repeat (first | exact Below.refl _ _ | exact below_alloc _ _ | refine Below.setCell ?_ (by simp) _ | refine below_back (by assumption) ?_ | refine Below.drew ?_ | refine below_drewN ?_ _ | refine Below.alloc ?_ (by first | exact Nat.le_refl _ | (simp; done) | (simp; omega)) _))⟩
  · have hno : Hid ((tl s k).take 2 ∉ LX.signL ∨ ¬ k + 2 ≤ s.size) := .inr h2
    by_cases hin1 : (tl s k).take 1 ∈ LX.signL
    · have hr : Hid (LX.signR (tl s k) = .good 5 ((tl s k).take 1) 0 1) := sign_one hk hno.out hin1
      have hd1 : decide (bs (s.extract k (k + 1)) ∈ LX.signL) = true := by rw [HX1.out]; simpa using hin1
      rw [hd1] at HC1
      have HX1' : Hid (s.extract k (k + 1) = ⟨((tl s k).take 1).toArray⟩) := by show _ = _; rw [← HX1.out, ← bs_str]
      clear hin1 hd1
      have g1 : decide ((k : Int) + 2 ≤ (s.size : Int)) = false := by rw [decide_eq_false_iff_not]; omega
      have g6 : IntKind.i64.wrap ((k : Int) + 2) = (k : Int) + 2 := IntWalk.i64_in _ (by omega)
      go_enter Try.func52, Try.ntmps52
      go_wp2
      refine wp_loop_rounds 3 ?_
      rw [rounds_succ]
      go_wp2
      go_quiet (fail)
      clear g1 g6
      go_wp2
      rw [rounds_succ]
      go_wp2
      have g1 : decide ((k : Int) + 1 ≤ (s.size : Int)) = true := by rw [decide_eq_true_iff]; omega
      have g2 : (k : Int) + 1 ≤ (s.size : Int) := by omega
      have g4 : (0 : Int) ≤ (k : Int) + 1 := by omega
      have g5 : ((k : Int) + 1).toNat = k + 1 := by omega
      have g7 : (k : Int) ≤ (k : Int) + 1 := by omega
      have g6 : IntKind.i64.wrap ((k : Int) + 1) = (k : Int) + 1 := IntWalk.i64_in _ (by omega)
      go_region_held3 (fun _ => True) (trivial) (first | (go_at_call 18; refine (refSigns_c _).mono ?_; rintro e w2 ⟨v2, rfl, hr2, hb2⟩; have HR2 := Lib.hid hr2; clear hr2) | (go_at_call 32; refine (HC1.out _ _ HR2.out).mono ?_; rintro e w' ⟨rfl, rfl⟩))
      clear g1 g2 g4 g5 g6 g7
      obtain ⟨hc2, hf2⟩ := bcell hb2
      have hz2 : w.heap.size < w2.heap.size := by have := hb2.size; simp at this; omega
      have r20 : w2.cell? ⟨w.heap.size, 0, none⟩ = some (.int .i64 0) := (hc2 w.heap.size 0 (by simp; try omega)).trans (by simp)
      have r21 : w2.cell? ⟨w.heap.size, 1, none⟩ = some (.string ⟨#[]⟩) := (hc2 w.heap.size 1 (by simp; try omega)).trans (by simp)
      have r22 : w2.cell? ⟨w.heap.size, 2, none⟩ = some (.int .i64 0) := (hc2 w.heap.size 2 (by simp; try omega)).trans (by simp)
      have r23 : w2.cell? ⟨w.heap.size, 3, none⟩ = some (.int .i64 0) := (hc2 w.heap.size 3 (by simp; try omega)).trans (by simp)
      have r24 : ∀ o, w2.frozen? ⟨w.heap.size, o, none⟩ = false := fun o => (hf2 w.heap.size o (by simp; try omega)).trans (by simp)
      clear hc2 hf2
      go_wp2
      exact bodyPost_ret (v := .tuple #[.agg #[.int .i64 5, .string (s.extract k (k + 1)), .int .i64 0, .int .i64 (k : Int)], .int .i64 ((k : Int) + 1), .int .i64 0]) (by simp [results, Try.results52, go_sem, r20, r21, r22, r23]) rfl ⟨.good hr.out rfl HX1'.out rfl (by omega), (by repeat (first | exact Below.refl _ _ | exact below_alloc _ _ | refine Below.setCell ?_ (by simp) _ | refine below_back (by assumption) ?_ | refine Below.drew ?_ | refine below_drewN ?_ _ | refine Below.alloc ?_ (by first | exact Nat.le_refl _ | (simp; done) | (simp; omega)) _))⟩
    · have hr : Hid (LX.signR (tl s k) = .bad 20) := sign_bad hk hno.out hin1
      have hd1 : decide (bs (s.extract k (k + 1)) ∈ LX.signL) = false := by rw [HX1.out]; simpa using hin1
      rw [hd1] at HC1
      clear hin1 hd1
      have g1 : decide ((k : Int) + 2 ≤ (s.size : Int)) = false := by rw [decide_eq_false_iff_not]; omega
      have g6 : IntKind.i64.wrap ((k : Int) + 2) = (k : Int) + 2 := IntWalk.i64_in _ (by omega)
      go_enter Try.func52, Try.ntmps52
      go_wp2
      refine wp_loop_rounds 3 ?_
      rw [rounds_succ]
      go_wp2
      go_quiet (fail)
      clear g1 g6
      go_wp2
      rw [rounds_succ]
      go_wp2
      have g1 : decide ((k : Int) + 1 ≤ (s.size : Int)) = true := by rw [decide_eq_true_iff]; omega
      have g2 : (k : Int) + 1 ≤ (s.size : Int) := by omega
      have g4 : (0 : Int) ≤ (k : Int) + 1 := by omega
      have g5 : ((k : Int) + 1).toNat = k + 1 := by omega
      have g7 : (k : Int) ≤ (k : Int) + 1 := by omega
      have g6 : IntKind.i64.wrap ((k : Int) + 1) = (k : Int) + 1 := IntWalk.i64_in _ (by omega)
      go_region_held3 (fun _ => True) (trivial) (first | (go_at_call 18; refine (refSigns_c _).mono ?_; rintro e w2 ⟨v2, rfl, hr2, hb2⟩; have HR2 := Lib.hid hr2; clear hr2) | (go_at_call 32; refine (HC1.out _ _ HR2.out).mono ?_; rintro e w' ⟨rfl, rfl⟩))
      clear g1 g2 g4 g5 g6 g7
      obtain ⟨hc2, hf2⟩ := bcell hb2
      have hz2 : w.heap.size < w2.heap.size := by have := hb2.size; simp at this; omega
      have r20 : w2.cell? ⟨w.heap.size, 0, none⟩ = some (.int .i64 0) := (hc2 w.heap.size 0 (by simp; try omega)).trans (by simp)
      have r21 : w2.cell? ⟨w.heap.size, 1, none⟩ = some (.string ⟨#[]⟩) := (hc2 w.heap.size 1 (by simp; try omega)).trans (by simp)
      have r22 : w2.cell? ⟨w.heap.size, 2, none⟩ = some (.int .i64 0) := (hc2 w.heap.size 2 (by simp; try omega)).trans (by simp)
      have r23 : w2.cell? ⟨w.heap.size, 3, none⟩ = some (.int .i64 0) := (hc2 w.heap.size 3 (by simp; try omega)).trans (by simp)
      have r24 : ∀ o, w2.frozen? ⟨w.heap.size, o, none⟩ = false := fun o => (hf2 w.heap.size o (by simp; try omega)).trans (by simp)
      clear hc2 hf2
      go_wp2
      rw [rounds_succ]
      go_wp2
      exact bodyPost_ret (v := .tuple #[.agg #[.int .i64 0, .string ⟨#[]⟩, .int .i64 0, .int .i64 0], .int .i64 (k : Int), .int .i64 20]) (by simp [results, Try.results52, go_sem, r20, r21, r22, r23]) rfl ⟨.bad hr.out rfl rfl, (by repeat (first | exact Below.refl _ _ | exact below_alloc _ _ | refine Below.setCell ?_ (by simp) _ | refine below_back (by assumption) ?_ | refine Below.drew ?_ | refine below_drewN ?_ _ | refine Below.alloc ?_ (by first | exact Nat.le_refl _ | (simp; done) | (simp; omega)) _))⟩
end Go.Proofs.Ytpcepfoebkmbgaa
