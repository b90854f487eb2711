/- The law LexRises. -/
import Derived.Test.YtpcepfoebkmbgaaLxTwM
import Derived.Outline
import Derived.Deep.RegionHeld3
namespace Go.Proofs.Ytpcepfoebkmbgaa
open Go.RowKit
set_option linter.unusedVariables false
theorem good_rise {l : ByteArray} {us : List LX.Tok} (h : LX.scan (bs l) = .good us) : ∀ j, j + 1 < us.length → (us.getD j tz).pos < (us.getD (j + 1) tz).pos := by
  obtain ⟨ts, rfl, _⟩ := LX.scan_good_form h
  obtain ⟨hr, hp⟩ := LX.scan_rise h
  intro j hj
  have hj' : j < ts.length := by simp at hj; omega
  have e1 : (ts ++ [(⟨0, [], 0, (bs l).length⟩ : LX.Tok)]).getD j tz = ts.getD j ⟨0, [], 0, 0⟩ := by
    simp only [List.getD_eq_getElem?_getD, List.getElem?_append_left hj']; rfl
  rw [e1]
  by_cases h0 : j + 1 < ts.length
  · have e2 : (ts ++ [(⟨0, [], 0, (bs l).length⟩ : LX.Tok)]).getD (j + 1) tz = ts.getD (j + 1) ⟨0, [], 0, 0⟩ := by
      simp only [List.getD_eq_getElem?_getD, List.getElem?_append_left h0]; rfl
    rw [e2]; exact hr j (j + 1) (by omega) h0
  · have h1 : j + 1 = ts.length := by omega
    have := hp j hj'
    rw [h1]
    simp only [List.getD_eq_getElem?_getD, List.getElem?_append_right (Nat.le_refl _), Nat.sub_self] at this ⊢
    exact this
theorem last_tok {l : ByteArray} {us : List LX.Tok} (h : LX.scan (bs l) = .good us) (m : Nat) (hm : m + 1 = us.length) : us.getD m tz = ⟨0, [], 0, l.size⟩ := by
  obtain ⟨ts, rfl, _⟩ := LX.scan_good_form h
  have : m = ts.length := by simp at hm; omega
  subst this
  simp [List.getD_eq_getElem?_getD, bs_len]
set_option maxHeartbeats 4000000 in
theorem rises_a (s0 : ByteArray) (a1 : Int) (w : World) (er p : Nat) (hr : LX.scan (bs s0) = .bad er p) (h1 : 1 ≤ er) (hp : p ≤ s0.size) :
    Calls Try.prog 7 #[.string s0, .int .i64 a1] w fun e w' => e = .returned (.bool true) ∧ Below w.heap.size w w' := by
  have HC1 := Lib.hid (fun W => Scan_bad hr W)
  obtain ⟨x1, x2⟩ := ne0 er h1
  have k0 : (0 : Int) ≤ (p : Int) := by omega
  have k1 : (p : Int) ≤ (s0.size : Int) := by omega
  clear hr h1 hp
  go_enter Try.func7, Try.ntmps7
  go_wp2_with (first
    | (go_at_call 10; refine (HC1.out _).mono ?_; rintro e W1 ⟨rfl, hb1⟩; clear HC1)
    | (go_at_call 13; refine (awake_c _).mono ?_; rintro e W9 ⟨rfl, hb9⟩))
  go_ret
  exact ⟨rfl, below_then hb1 hb9⟩
set_option maxHeartbeats 4000000 in
theorem rises_b (s0 : ByteArray) (a1 : Int) (w : World) (ua : List LX.Tok) (m : Nat) (hr : LX.scan (bs s0) = .good ua) (hm : m + 1 = ua.length) (n1 : ua.length ≤ 1000001) (hk : a1 < 0) :
    Calls Try.prog 7 #[.string s0, .int .i64 a1] w fun e w' => e = .returned (.bool true) ∧ Below w.heap.size w w' := by
  have HC1 := Lib.hid (fun W => Scan_goodC hr W)
  have HR := Lib.hid (good_rise hr)
  have HE := Lib.hid (last_tok hr m hm)
  have HM : Hid (m < ua.length) := (by omega : m < ua.length)
  have HN1 : Hid (0 < ua.length) := (by omega : 0 < ua.length)
  have hm1 : (ua.length : Int) - 1 = (m : Int) := by omega
  have hz : ((ua.length : Int) == 0) = false := (ne0 _ (by omega)).1
  have m0 : (0 : Int) ≤ (m : Int) := by omega
  have m1 : (m : Int) < (ua.length : Int) := by omega
  have tok0 : True := trivial
  have g1 : decide (a1 < (0 : Int)) = true := by rw [decide_eq_true_iff]; exact hk
  clear hr hm hk
  go_enter Try.func7, Try.ntmps7
  go_wp2_with (first
    | (go_at_call 10; have _t := tok0; clear tok0; refine (HC1.out _).mono ?_; rintro e W1 ⟨v1, rfl, hr1, hcp1, hb1⟩; clear HC1; have tok1 : True := trivial; obtain ⟨b1, o1, cap1, rfl, hc1⟩ := hr1.open HN1.out; have hcap1 : (ua.length : Int) ≤ (cap1 : Int) := (by have h1 := hcp1 _ _ _ rfl; omega); have HD1 := Lib.hid hc1; obtain ⟨z0, z1, z2, z3⟩ := hc1 m HM.out; rw [HE.out] at z0 z1 z2 z3; simp at z0 z1 z2 z3; clear hr1 hcp1 hc1))
  go_loopw [8] (fun i wr => ∃ k j : Nat, k ≤ ua.length ∧ Hid (k = j + 1) ∧ i = .int .i64 k ∧ Below W1.heap.size W1 wr) (fun i _ => ua.length - (intOf i).toNat)
  case atStart => exact ⟨1, 0, by have := HN1.out; omega, (rfl : 1 = 0 + 1), rfl, Below.refl _ _⟩
  case round =>
    obtain ⟨k, j, hk, hkj, rfl, hbl⟩ := hrel
    by_cases hlt : k < ua.length
    · have hkj' := hkj.out
      have q1 := (rd_keep HD1.out hbl k hlt).2.2.2
      have q2 := (rd_keep HD1.out hbl j (by omega)).2.2.2
      have hp := HR.out j (by omega)
      rw [← hkj'] at hp
      generalize (ua.getD k tz).pos = pk at *
      generalize (ua.getD j tz).pos = pj at *
      have f1 : decide (pk < pj) = false := by rw [decide_eq_false_iff_not]; omega
      have f3 : (pk == pj) = false := by rw [beq_eq_false_iff_ne]; omega
      have f2 : ((pk : Int) == (pj : Int)) = false := by rw [beq_eq_false_iff_ne]; omega
      have k0 : (0 : Int) ≤ (k : Int) := by omega
      have k1 : (k : Int) < (ua.length : Int) := by omega
      have k2 : (k : Int) - 1 = (j : Int) := by omega
      have k3 : (0 : Int) ≤ (j : Int) := by omega
      have k4 : (j : Int) < (ua.length : Int) := by omega
      have kw : IntKind.i64.wrap (j : Int) = (j : Int) := by rw [IntWalk.i64_left]; exact wrap_nat j (by omega)
      clear hkj' hp hlt
      go_wp2
      go_quiet (fail)
      go_wp2
      go_roundw
      case rel => exact ⟨k + 1, k, by omega, (rfl : k + 1 = k + 1), by go_num, below_drewN hbl _⟩
      case measure => simp [intOf]; omega
    · obtain rfl : k = ua.length := by omega
      go_wp2_with (go_at_call 13; refine (awake_c _).mono ?_; rintro e W9 ⟨rfl, hb9⟩)
      go_ret
      exact ⟨rfl, below_then hb1 (below_then hbl hb9)⟩
set_option maxHeartbeats 4000000 in
theorem rises_c (s0 : ByteArray) (a1 : Int) (w : World) (ua : List LX.Tok) (m : Nat) (hr : LX.scan (bs s0) = .good ua) (hm : m + 1 = ua.length) (n1 : ua.length ≤ 1000001) (hk : (ua.length : Int) ≤ a1) :
    Calls Try.prog 7 #[.string s0, .int .i64 a1] w fun e w' => e = .returned (.bool true) ∧ Below w.heap.size w w' := by
  have HC1 := Lib.hid (fun W => Scan_goodC hr W)
  have HR := Lib.hid (good_rise hr)
  have HE := Lib.hid (last_tok hr m hm)
  have HM : Hid (m < ua.length) := (by omega : m < ua.length)
  have HN1 : Hid (0 < ua.length) := (by omega : 0 < ua.length)
  have hm1 : (ua.length : Int) - 1 = (m : Int) := by omega
  have hz : ((ua.length : Int) == 0) = false := (ne0 _ (by omega)).1
  have m0 : (0 : Int) ≤ (m : Int) := by omega
  have m1 : (m : Int) < (ua.length : Int) := by omega
  have tok0 : True := trivial
  have g1 : decide (a1 < (0 : Int)) = false := by rw [decide_eq_false_iff_not]; omega
  have g2 : decide ((ua.length : Int) ≤ a1) = true := by rw [decide_eq_true_iff]; exact hk
  clear hr hm hk
  go_enter Try.func7, Try.ntmps7
  go_wp2_with (first
    | (go_at_call 10; have _t := tok0; clear tok0; refine (HC1.out _).mono ?_; rintro e W1 ⟨v1, rfl, hr1, hcp1, hb1⟩; clear HC1; have tok1 : True := trivial; obtain ⟨b1, o1, cap1, rfl, hc1⟩ := hr1.open HN1.out; have hcap1 : (ua.length : Int) ≤ (cap1 : Int) := (by have h1 := hcp1 _ _ _ rfl; omega); have HD1 := Lib.hid hc1; obtain ⟨z0, z1, z2, z3⟩ := hc1 m HM.out; rw [HE.out] at z0 z1 z2 z3; simp at z0 z1 z2 z3; clear hr1 hcp1 hc1))
  go_loopw [8] (fun i wr => ∃ k j : Nat, k ≤ ua.length ∧ Hid (k = j + 1) ∧ i = .int .i64 k ∧ Below W1.heap.size W1 wr) (fun i _ => ua.length - (intOf i).toNat)
  case atStart => exact ⟨1, 0, by have := HN1.out; omega, (rfl : 1 = 0 + 1), rfl, Below.refl _ _⟩
  case round =>
    obtain ⟨k, j, hk, hkj, rfl, hbl⟩ := hrel
    by_cases hlt : k < ua.length
    · have hkj' := hkj.out
      have q1 := (rd_keep HD1.out hbl k hlt).2.2.2
      have q2 := (rd_keep HD1.out hbl j (by omega)).2.2.2
      have hp := HR.out j (by omega)
      rw [← hkj'] at hp
      generalize (ua.getD k tz).pos = pk at *
      generalize (ua.getD j tz).pos = pj at *
      have f1 : decide (pk < pj) = false := by rw [decide_eq_false_iff_not]; omega
      have f3 : (pk == pj) = false := by rw [beq_eq_false_iff_ne]; omega
      have f2 : ((pk : Int) == (pj : Int)) = false := by rw [beq_eq_false_iff_ne]; omega
      have k0 : (0 : Int) ≤ (k : Int) := by omega
      have k1 : (k : Int) < (ua.length : Int) := by omega
      have k2 : (k : Int) - 1 = (j : Int) := by omega
      have k3 : (0 : Int) ≤ (j : Int) := by omega
      have k4 : (j : Int) < (ua.length : Int) := by omega
      have kw : IntKind.i64.wrap (j : Int) = (j : Int) := by rw [IntWalk.i64_left]; exact wrap_nat j (by omega)
      clear hkj' hp hlt
      go_wp2
      go_quiet (fail)
      go_wp2
      go_roundw
      case rel => exact ⟨k + 1, k, by omega, (rfl : k + 1 = k + 1), by go_num, below_drewN hbl _⟩
      case measure => simp [intOf]; omega
    · obtain rfl : k = ua.length := by omega
      go_wp2_with (go_at_call 13; refine (awake_c _).mono ?_; rintro e W9 ⟨rfl, hb9⟩)
      go_ret
      exact ⟨rfl, below_then hb1 (below_then hbl hb9)⟩
end Go.Proofs.Ytpcepfoebkmbgaa
