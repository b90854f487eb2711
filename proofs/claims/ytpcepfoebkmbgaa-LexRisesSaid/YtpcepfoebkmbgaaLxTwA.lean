/- The law LexTwo: the cases where a scan errs, or the tokens are many -/
import Derived.Test.YtpcepfoebkmbgaaLxTwo
namespace Go.Proofs.Ytpcepfoebkmbgaa
open Go.RowKit
set_option linter.unusedVariables false
theorem sums (p n : Nat) (hp : p ≤ 1000000) (hn : n ≤ 1000000) : wrap64 ((p : Int) + (n : Int)) = (p : Int) + (n : Int) ∧ wrap64 ((p : Int) + (n : Int) + 1) = (p : Int) + (n : Int) + 1 := ⟨IntWalk.wrap64_in _ (by omega), IntWalk.wrap64_in _ (by omega)⟩
theorem wrap_nat (k : Nat) (h : k ≤ 1000000) : wrap64 (k : Int) = (k : Int) := IntWalk.wrap64_in _ (by omega)
theorem wrap_succ (k : Nat) (h : k ≤ 1000000) : wrap64 ((k : Int) + 1) = (k : Int) + 1 := IntWalk.wrap64_in _ (by omega)
theorem wrap_add (a n : Nat) (h : a ≤ 1000000) (h2 : n ≤ 1000000) : wrap64 ((a : Int) + ((n : Int) + 1)) = (a : Int) + ((n : Int) + 1) := IntWalk.wrap64_in _ (by omega)
theorem big_dec (a n : Nat) (h : 20000 < a + n + 1) : decide ((20000 : Int) < (a : Int) + (n : Int) + 1) = true := by rw [decide_eq_true_iff]; omega
theorem small_dec (a n : Nat) (h : ¬ 20000 < a + n + 1) : decide ((20000 : Int) < (a : Int) + (n : Int) + 1) = false := by rw [decide_eq_false_iff_not]; omega
theorem eqn_dec (q p n : Nat) (h : q = p + (n + 1)) : ((q : Int) == (p : Int) + (n : Int) + 1) = true := by rw [beq_iff_eq]; omega
theorem ne0 (e : Nat) (h : 1 ≤ e) : ((e : Int) == 0) = false ∧ ((e : Int) != 0) = true := by
  have : ¬ (e : Int) = 0 := by omega
  exact ⟨beq_eq_false_iff_ne.2 this, by simp; omega⟩
set_option maxHeartbeats 4000000 in
theorem two_a (s0 s1 : ByteArray) (w : World) (hs : s0.size + s1.size < 40000) (er p e' p' : Nat) (hr : LX.scan (bs s0) = .bad er p) (hc : LX.scan (bs (s0 ++ ⟨#[10]⟩ ++ s1)) = .bad e' p') (h1 : 1 ≤ er) (h2 : 1 ≤ e') :
    Calls Try.prog 6 #[.string s0, .string s1] w fun e w' => e = .returned (.bool true) ∧ Below w.heap.size w w' := by
  have hsum : (s0.size : Int) + (s1.size : Int) ≤ 281474976702464 := by omega
  have g1 : decide ((40000 : Int) ≤ (s0.size : Int) + (s1.size : Int)) = false := by rw [decide_eq_false_iff_not]; omega
  have HC1 := Lib.hid (fun W => Scan_bad hr W)
  have HC2 := Lib.hid (fun W => Scan_any s1 W)
  have HC3 := Lib.hid (fun W => Scan_bad hc W)
  obtain ⟨x1, x2⟩ := ne0 er h1
  obtain ⟨x3, x4⟩ := ne0 e' h2
  clear hr hc h1 h2 hs
  go_enter Try.func6, Try.ntmps6
  go_wp2_with (first
    | (go_at_call 10; have _t := tok2; clear tok2; refine (HC3.out _).mono ?_; rintro e W3 ⟨rfl, hb3⟩; clear HC3; have tok3 : True := trivial)
    | (go_at_call 10; have _t := tok1; clear tok1; refine (HC2.out _).mono ?_; rintro e W2 ⟨v2, er2, p2, rfl, hb2⟩; clear HC2; have tok2 : True := trivial)
    | (go_at_call 10; refine (HC1.out _).mono ?_; rintro e W1 ⟨rfl, hb1⟩; clear HC1; have tok1 : True := trivial)
    | (go_at_call 13; refine (awake_c _).mono ?_; rintro e W9 ⟨rfl, hb9⟩))
  go_ret
  exact ⟨rfl, below_then hb1 (below_then hb2 (below_then hb3 hb9))⟩
set_option maxHeartbeats 4000000 in
theorem two_b (s0 s1 : ByteArray) (w : World) (hs : s0.size + s1.size < 40000) (ua : List LX.Tok) (e' p' : Nat) (hr : LX.scan (bs s0) = .good ua) (hu : ua.length ≤ 20000) (hbig : 20000 < ua.length + s1.size + 1) (hc : LX.scan (bs (s0 ++ ⟨#[10]⟩ ++ s1)) = .bad e' p') (h2 : 1 ≤ e') :
    Calls Try.prog 6 #[.string s0, .string s1] w fun e w' => e = .returned (.bool true) ∧ Below w.heap.size w w' := by
  have hsum : (s0.size : Int) + (s1.size : Int) ≤ 281474976702464 := by omega
  have g1 : decide ((40000 : Int) ≤ (s0.size : Int) + (s1.size : Int)) = false := by rw [decide_eq_false_iff_not]; omega
  have HC1 := Lib.hid (fun W => Scan_good hr W)
  have HC2 := Lib.hid (fun W => Scan_any s1 W)
  have HC3 := Lib.hid (fun W => Scan_bad hc W)
  obtain ⟨x3, x4⟩ := ne0 e' h2
  obtain ⟨w1, w2⟩ := sums ua.length s1.size (by omega) (by omega)
  have g2 := big_dec _ _ hbig
  clear hr hc h2 hs hbig hu
  go_enter Try.func6, Try.ntmps6
  go_wp2_with (first
    | (go_at_call 10; have _t := tok2; clear tok2; refine (HC3.out _).mono ?_; rintro e W3 ⟨rfl, hb3⟩; clear HC3; have tok3 : True := trivial)
    | (go_at_call 10; have _t := tok1; clear tok1; refine (HC2.out _).mono ?_; rintro e W2 ⟨v2, er2, p2, rfl, hb2⟩; clear HC2; have tok2 : True := trivial)
    | (go_at_call 10; refine (HC1.out _).mono ?_; rintro e W1 ⟨v1, rfl, hr1, hb1⟩; clear HC1; have tok1 : True := trivial; obtain ⟨q1, c1, rfl, hz1, hy1⟩ := hr1; clear hz1 hy1)
    | (go_at_call 13; refine (awake_c _).mono ?_; rintro e W9 ⟨rfl, hb9⟩))
  go_ret
  exact ⟨rfl, below_then hb1 (below_then hb2 (below_then hb3 hb9))⟩
set_option maxHeartbeats 4000000 in
theorem two_c (s0 s1 : ByteArray) (w : World) (hs : s0.size + s1.size < 40000) (ua uc : List LX.Tok) (hr : LX.scan (bs s0) = .good ua) (hu : ua.length ≤ 20000) (hbig : 20000 < ua.length + s1.size + 1) (hc : LX.scan (bs (s0 ++ ⟨#[10]⟩ ++ s1)) = .good uc) :
    Calls Try.prog 6 #[.string s0, .string s1] w fun e w' => e = .returned (.bool true) ∧ Below w.heap.size w w' := by
  have hsum : (s0.size : Int) + (s1.size : Int) ≤ 281474976702464 := by omega
  have g1 : decide ((40000 : Int) ≤ (s0.size : Int) + (s1.size : Int)) = false := by rw [decide_eq_false_iff_not]; omega
  have HC1 := Lib.hid (fun W => Scan_good hr W)
  have HC2 := Lib.hid (fun W => Scan_any s1 W)
  have HC3 := Lib.hid (fun W => Scan_good hc W)
  obtain ⟨w1, w2⟩ := sums ua.length s1.size (by omega) (by omega)
  have g2 := big_dec _ _ hbig
  clear hr hc hs hbig hu
  go_enter Try.func6, Try.ntmps6
  go_wp2_with (first
    | (go_at_call 10; have _t := tok2; clear tok2; refine (HC3.out _).mono ?_; rintro e W3 ⟨v3, rfl, hr3, hb3⟩; clear HC3; have tok3 : True := trivial; clear hr3)
    | (go_at_call 10; have _t := tok1; clear tok1; refine (HC2.out _).mono ?_; rintro e W2 ⟨v2, er2, p2, rfl, hb2⟩; clear HC2; have tok2 : True := trivial)
    | (go_at_call 10; refine (HC1.out _).mono ?_; rintro e W1 ⟨v1, rfl, hr1, hb1⟩; clear HC1; have tok1 : True := trivial; obtain ⟨q1, c1, rfl, hz1, hy1⟩ := hr1; clear hz1 hy1)
    | (go_at_call 13; refine (awake_c _).mono ?_; rintro e W9 ⟨rfl, hb9⟩))
  go_ret
  exact ⟨rfl, below_then hb1 (below_then hb2 (below_then hb3 hb9))⟩
set_option maxHeartbeats 4000000 in
theorem two_d (s0 s1 : ByteArray) (w : World) (hs : s0.size + s1.size < 40000) (ua : List LX.Tok) (er p q : Nat) (hr : LX.scan (bs s0) = .good ua) (hu : ua.length ≤ 20000) (hbig : ¬ 20000 < ua.length + s1.size + 1) (hrb : LX.scan (bs s1) = .bad er p) (h1 : 1 ≤ er) (hp : p ≤ s1.size) (hc : LX.scan (bs (s0 ++ ⟨#[10]⟩ ++ s1)) = .bad er q) (hq : q = p + (s0.size + 1)) :
    Calls Try.prog 6 #[.string s0, .string s1] w fun e w' => e = .returned (.bool true) ∧ Below w.heap.size w w' := by
  have hsum : (s0.size : Int) + (s1.size : Int) ≤ 281474976702464 := by omega
  have g1 : decide ((40000 : Int) ≤ (s0.size : Int) + (s1.size : Int)) = false := by rw [decide_eq_false_iff_not]; omega
  have HC1 := Lib.hid (fun W => Scan_good hr W)
  have HC2 := Lib.hid (fun W => Scan_bad hrb W)
  have HC3 := Lib.hid (fun W => Scan_bad hc W)
  obtain ⟨x1, x2⟩ := ne0 er h1
  obtain ⟨w1, w2⟩ := sums ua.length s1.size (by omega) (by omega)
  obtain ⟨w3, w4⟩ := sums p s0.size (by omega) (by omega)
  have g2 := small_dec _ _ hbig
  have g3 := eqn_dec q p s0.size hq
  clear hr hrb hc hs hbig hu h1 hp hq
  go_enter Try.func6, Try.ntmps6
  go_wp2_with (first
    | (go_at_call 10; have _t := tok2; clear tok2; refine (HC3.out _).mono ?_; rintro e W3 ⟨rfl, hb3⟩; clear HC3; have tok3 : True := trivial)
    | (go_at_call 10; have _t := tok1; clear tok1; refine (HC2.out _).mono ?_; rintro e W2 ⟨rfl, hb2⟩; clear HC2; have tok2 : True := trivial)
    | (go_at_call 10; refine (HC1.out _).mono ?_; rintro e W1 ⟨v1, rfl, hr1, hb1⟩; clear HC1; have tok1 : True := trivial; obtain ⟨q1, c1, rfl, hz1, hy1⟩ := hr1; clear hz1 hy1)
    | (go_at_call 13; refine (awake_c _).mono ?_; rintro e W9 ⟨rfl, hb9⟩))
  go_ret
  exact ⟨rfl, below_then hb1 (below_then hb2 (below_then hb3 hb9))⟩
end Go.Proofs.Ytpcepfoebkmbgaa
