/- The line and the place in it: what they are; the program's answer and the document's. -/
import Derived.Test.YtpcepfoebkmbgaaLxAt
import Derived.Test.YtpcepfoebkmbgaaLxPre
import Derived.Lib.Bytealg
import Derived.IntWalk
namespace Go.Proofs.Ytpcepfoebkmbgaa
open Go.RowKit
set_option linter.unusedVariables false
def lnStep (p : Nat × Nat) (b : UInt8) : Nat × Nat := if b = 10 then (p.1 + 1, 0) else (p.1, p.2 + 1)
def lnG (l : LX.Bs) : Nat × Nat := l.foldl lnStep (0, 0)
theorem lnG_snoc (l : LX.Bs) (b : UInt8) : lnG (l ++ [b]) = lnStep (lnG l) b := by simp [lnG]
theorem lnG_take (l : LX.Bs) (k : Nat) (h : k < l.length) : lnG (l.take (k + 1)) = lnStep (lnG (l.take k)) l[k] := by
  rw [List.take_add_one, List.getElem?_eq_getElem h]; exact lnG_snoc _ _
theorem lnG_count (l : LX.Bs) : ∀ c k, (l.foldl lnStep (c, k)).1 = c + l.count 10 := by
  induction l with
  | nil => intro c k; simp
  | cons b l ih =>
    intro c k
    rw [List.foldl_cons]
    by_cases hb : b = 10
    · have e : lnStep (c, k) b = (c + 1, 0) := by simp [lnStep, hb]
      rw [e, ih, hb, List.count_cons_self]; omega
    · have e : lnStep (c, k) b = (c, k + 1) := by simp [lnStep, hb]
      rw [e, ih, List.count_cons_of_ne hb]
theorem lnG_le (l : LX.Bs) : ∀ c k, (l.foldl lnStep (c, k)).1 ≤ c + l.length ∧ (l.foldl lnStep (c, k)).2 ≤ k + l.length := by
  induction l with
  | nil => intro c k; simp
  | cons b l ih =>
    intro c k
    rw [List.foldl_cons]
    by_cases hb : b = 10
    · have e : lnStep (c, k) b = (c + 1, 0) := by simp [lnStep, hb]
      rw [e]; have := ih (c + 1) 0; simp only [List.length_cons]; omega
    · have e : lnStep (c, k) b = (c, k + 1) := by simp [lnStep, hb]
      rw [e]; have := ih c (k + 1); simp only [List.length_cons]; omega
theorem lnG_bd (l : LX.Bs) : (lnG l).1 ≤ l.length ∧ (lnG l).2 ≤ l.length := by
  have := lnG_le l 0 0; simpa [lnG] using this
theorem bs_get (s : ByteArray) (k : Nat) (h : k < s.size) : (bs s)[k]'(by rw [bs_len]; exact h) = s[k] := by
  have e := tl_cons s k h
  have e2 : (bs s).drop k = s[k] :: tl s (k + 1) := e
  have : ((bs s).drop k)[0]? = some s[k] := by rw [e2]; rfl
  rw [List.getElem?_drop, Nat.add_zero, List.getElem?_eq_getElem (by rw [bs_len]; exact h)] at this
  exact Option.some.inj this
set_option maxHeartbeats 1000000 in
theorem refLine_c (s : ByteArray) (n : Nat) (w : World) (hs : s.size ≤ 140737488351232) (hn : n ≤ s.size) :
    Calls Try.prog 22 #[.string s, .int .i64 (n : Int)] w fun e w' => e = .returned (.tuple #[.int .i64 ((lnG ((bs s).take n)).1 + 1 : Int), .int .i64 ((lnG ((bs s).take n)).2 : Int), .int .i64 0]) ∧ Below w.heap.size w w' := by
  have k0 : (0 : Int) ≤ (n : Int) := by omega
  have k1 : (n : Int) ≤ (s.size : Int) := by omega
  go_enter Try.func22, Try.ntmps22
  go_wp2
  go_loopw [4, 5, 7] (fun l c i wr => ∃ k a b : Nat, k ≤ n ∧ i = .int .i64 k ∧ l = .int .i64 ((a : Int) + 1) ∧ c = .int .i64 b ∧ Hid (lnG ((bs s).take k) = (a, b)) ∧ a ≤ k ∧ b ≤ k ∧ Below w.heap.size w wr) (fun _ _ i _ => n - (intOf i).toNat)
  case atStart => exact ⟨0, 0, 0, Nat.zero_le _, rfl, rfl, rfl, (rfl : lnG [] = (0, 0)), Nat.le_refl _, Nat.le_refl _, Below.refl _ _⟩
  case round =>
    obtain ⟨k, a, b, hk, rfl, rfl, rfl, hl, ha, hb, hbl⟩ := hrel
    by_cases hlt : k < n
    · have hks : k < s.size := by omega
      have hst := lnG_take (bs s) k (by rw [bs_len]; exact hks)
      rw [bs_get s k hks, hl.out] at hst
      by_cases h10 : s[k].toNat = 10
      · have hb10 : s[k] = 10 := UInt8.toNat_inj.1 h10
        have HST : Hid (lnG ((bs s).take (k + 1)) = (a + 1, 0)) := by show _ = _; rw [hst]; simp [lnStep, hb10]
        have e1 := eqT (c := s[k]) 10 (by omega)
        clear hst h10 hb10
        go_wp2
        go_roundw
        case rel => exact ⟨k + 1, a + 1, 0, by omega, by go_num, by first | rfl | go_num, rfl, HST, by omega, by omega, hbl⟩
        case measure => simp [intOf]; omega
      · have hb10 : ¬ s[k] = 10 := fun h => h10 (by rw [h]; rfl)
        have HST : Hid (lnG ((bs s).take (k + 1)) = (a, b + 1)) := by show _ = _; rw [hst]; simp [lnStep, hb10]
        have e1 := eqF (c := s[k]) 10 (by omega)
        clear hst h10 hb10
        go_wp2
        go_roundw
        case rel => exact ⟨k + 1, a, b + 1, by omega, by go_num, rfl, by go_num, HST, by omega, by omega, hbl⟩
        case measure => simp [intOf]; omega
    · obtain rfl : k = n := by omega
      go_wp2
      go_ret3
      rw [hl.out]; exact ⟨rfl, hbl⟩
end Go.Proofs.Ytpcepfoebkmbgaa
