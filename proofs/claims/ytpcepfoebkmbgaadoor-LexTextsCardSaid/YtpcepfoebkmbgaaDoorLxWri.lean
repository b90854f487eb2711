/- The program's writer of single tokens. -/
import Derived.Test.YtpcepfoebkmbgaaDoorLxBld
import Derived.Test.YtpcepfoebkmbgaaDoorLxQuoP
import Derived.Test.YtpcepfoebkmbgaaDoorLxTxM
import Derived.Test.YtpcepfoebkmbgaaDoorLxMWord
import Derived.Test.YtpcepfoebkmbgaaDoorLxTells
namespace Go.Proofs.YtpcepfoebkmbgaaDoor
open Go.RowKit
set_option linter.unusedVariables false
def WriteE (t : LX.ATok) (e : Ending) : Prop :=
  match LX.wrt t with
  | some x => e = .returned (.tuple #[.string ⟨x.toArray⟩, .bool true])
  | none => ∃ x, e = .returned (.tuple #[.string x, .bool false])
theorem WriteE.yes {t : LX.ATok} {x : LX.Bs} (h : LX.wrt t = some x) {y : ByteArray} (hy : y = ⟨x.toArray⟩) : WriteE t (.returned (.tuple #[.string y, .bool true])) := by
  subst hy; unfold WriteE; rw [h]
theorem WriteE.no {t : LX.ATok} (h : LX.wrt t = none) {y : ByteArray} : WriteE t (.returned (.tuple #[.string y, .bool false])) := by
  unfold WriteE; rw [h]; exact ⟨y, rfl⟩
theorem empty_yes {s : ByteArray} (h : bs s = []) : s.toList.isEmpty = true := by rw [bs_toList, h]; rfl
theorem empty_no {s : ByteArray} (h : bs s ≠ []) : s.toList.isEmpty = false := by rw [bs_toList]; cases hb : bs s with | nil => exact absurd hb h | cons _ _ => rfl
theorem isWord_q (s : ByteArray) (b : Bool) (h : LX.isWordB (bs s) = b) (w : World) (hs : s.size ≤ 140737488351232) : Calls Tryd.prog 32 #[.string s] w fun e w' => e = .returned (.bool b) ∧ w' = w :=
  (isWord_c s w (by omega)).mono fun _ _ ⟨h1, h2⟩ => ⟨by rw [h1, h], h2.symm⟩
theorem signs_at {w : World} {sb so sc : Nat} (hG : Sgs w sb so) : RdS w (.slice (some ⟨sb, so, none⟩) 28 sc) LX.signL :=
  ⟨_, _, rfl, by decide, .inr ⟨sb, so, rfl, fun i hi => hG i hi⟩⟩
theorem Contains_q (s : ByteArray) (sb so sc : Nat) (b : Bool) (h : decide (bs s ∈ LX.signL) = b) (w : World) (hG : Sgs w sb so) : Calls Tryd.prog 33 #[.slice (some ⟨sb, so, none⟩) 28 sc, .string s] w fun e w' => e = .returned (.bool b) ∧ w' = w := by
  have es := bs_str s
  cases b with
  | true =>
    have := Contains_yes (.slice (some ⟨sb, so, none⟩) 28 sc) LX.signL (bs s) w (signs_at hG) (by simpa using h)
    rw [← es] at this
    exact this.mono fun _ _ ⟨h1, h2⟩ => ⟨h1, h2.symm⟩
  | false =>
    have := Contains_no (.slice (some ⟨sb, so, none⟩) 28 sc) LX.signL (bs s) w (signs_at hG) (by simpa using h)
    rw [← es] at this
    exact this.mono fun _ _ ⟨h1, h2⟩ => ⟨h1, h2.symm⟩
set_option maxRecDepth 100000 in
set_option maxHeartbeats 2000000 in
theorem write_end1 (w : World) (mb sb so sc : Nat) (k n pos : Int) (s : ByteArray) (hs : s.size ≤ 140737488351232) (f0 : (k == 0) = true) (g1 : s.toList.isEmpty = true) (g2 : (n == 0) = true) :
    Calls Tryd.prog 22 #[.agg #[.map (some mb), .slice (some ⟨sb, so, none⟩) 28 sc], .agg #[.int .i64 k, .string s, .int .i64 n, .int .i64 pos]] w fun e w' => e = .returned (.tuple #[.string ⟨#[]⟩, .bool true]) ∧ Below w.heap.size w w' := by
  have hb0 : Below w.heap.size w ((w.alloc (.cells #[.map (some mb), .slice (some ⟨sb, so, none⟩) 28 sc] 48)).alloc (.cells #[.int .i64 k, .string s, .int .i64 n, .int .i64 pos] 32)) := below_then (below_alloc _ _) (below_alloc _ _)
  go_enter Tryd.func22, Tryd.ntmps22
  go_wp2
  go_quiet (fail)
  go_wp2
  go_ret2
  exact ⟨by first | rfl | exact ⟨_, rfl⟩, below_drewN hb0 _⟩
set_option maxRecDepth 100000 in
set_option maxHeartbeats 2000000 in
theorem write_end2 (w : World) (mb sb so sc : Nat) (k n pos : Int) (s : ByteArray) (hs : s.size ≤ 140737488351232) (f0 : (k == 0) = true) (g1 : s.toList.isEmpty = true) (g2 : (n == 0) = false) :
    Calls Tryd.prog 22 #[.agg #[.map (some mb), .slice (some ⟨sb, so, none⟩) 28 sc], .agg #[.int .i64 k, .string s, .int .i64 n, .int .i64 pos]] w fun e w' => e = .returned (.tuple #[.string ⟨#[]⟩, .bool false]) ∧ Below w.heap.size w w' := by
  have hb0 : Below w.heap.size w ((w.alloc (.cells #[.map (some mb), .slice (some ⟨sb, so, none⟩) 28 sc] 48)).alloc (.cells #[.int .i64 k, .string s, .int .i64 n, .int .i64 pos] 32)) := below_then (below_alloc _ _) (below_alloc _ _)
  go_enter Tryd.func22, Tryd.ntmps22
  go_wp2
  go_quiet (fail)
  go_wp2
  go_ret2
  exact ⟨by first | rfl | exact ⟨_, rfl⟩, below_drewN hb0 _⟩
set_option maxRecDepth 100000 in
set_option maxHeartbeats 2000000 in
theorem write_end3 (w : World) (mb sb so sc : Nat) (k n pos : Int) (s : ByteArray) (hs : s.size ≤ 140737488351232) (f0 : (k == 0) = true) (g1 : s.toList.isEmpty = false) :
    Calls Tryd.prog 22 #[.agg #[.map (some mb), .slice (some ⟨sb, so, none⟩) 28 sc], .agg #[.int .i64 k, .string s, .int .i64 n, .int .i64 pos]] w fun e w' => e = .returned (.tuple #[.string ⟨#[]⟩, .bool false]) ∧ Below w.heap.size w w' := by
  have hb0 : Below w.heap.size w ((w.alloc (.cells #[.map (some mb), .slice (some ⟨sb, so, none⟩) 28 sc] 48)).alloc (.cells #[.int .i64 k, .string s, .int .i64 n, .int .i64 pos] 32)) := below_then (below_alloc _ _) (below_alloc _ _)
  go_enter Tryd.func22, Tryd.ntmps22
  go_wp2
  go_quiet (fail)
  go_wp2
  go_ret2
  exact ⟨by first | rfl | exact ⟨_, rfl⟩, below_drewN hb0 _⟩
set_option maxRecDepth 100000 in
set_option maxHeartbeats 2000000 in
theorem write_num1 (w : World) (mb sb so sc : Nat) (k n pos : Int) (s : ByteArray) (hs : s.size ≤ 140737488351232) (f0 : (k == 0) = false) (f2 : (k == 2) = true) (h0 : -9223372036854775808 ≤ n) (h1 : n ≤ 9223372036854775807) (ht : Tab w) (x : LX.Bs) (hn : LX.numberR n = (x, 0)) (g1 : s.toList.isEmpty = true) :
    Calls Tryd.prog 22 #[.agg #[.map (some mb), .slice (some ⟨sb, so, none⟩) 28 sc], .agg #[.int .i64 k, .string s, .int .i64 n, .int .i64 pos]] w fun e w' => e = .returned (.tuple #[.string ⟨x.toArray⟩, .bool true]) ∧ Below w.heap.size w w' := by
  have hb0 : Below w.heap.size w ((w.alloc (.cells #[.map (some mb), .slice (some ⟨sb, so, none⟩) 28 sc] 48)).alloc (.cells #[.int .i64 k, .string s, .int .i64 n, .int .i64 pos] 32)) := below_then (below_alloc _ _) (below_alloc _ _)
  have HC := Lib.hid (Number_c n ((w.alloc (.cells #[.map (some mb), .slice (some ⟨sb, so, none⟩) 28 sc] 48)).alloc (.cells #[.int .i64 k, .string s, .int .i64 n, .int .i64 pos] 32)) h0 h1 (ht.keep hb0))
  unfold NumE at HC
  rw [hn] at HC
  clear hn ht
  go_enter Tryd.func22, Tryd.ntmps22
  go_wp2_with (go_at_call 9; refine HC.out.mono ?_; rintro e w3 ⟨rfl, hb3⟩; have r1 : w3.cell? ⟨w.heap.size + 1, 1, none⟩ = some (.string s) := (hb3.cell (p := ⟨w.heap.size + 1, 1, none⟩) (by simp)).trans (by simp))
  go_quiet (fail)
  go_wp2
  go_ret2
  exact ⟨by first | rfl | exact ⟨_, rfl⟩, below_drewN (below_then hb0 hb3) _⟩
set_option maxRecDepth 100000 in
set_option maxHeartbeats 2000000 in
theorem write_num2 (w : World) (mb sb so sc : Nat) (k n pos : Int) (s : ByteArray) (hs : s.size ≤ 140737488351232) (f0 : (k == 0) = false) (f2 : (k == 2) = true) (h0 : -9223372036854775808 ≤ n) (h1 : n ≤ 9223372036854775807) (ht : Tab w) (x : LX.Bs) (hn : LX.numberR n = (x, 0)) (g1 : s.toList.isEmpty = false) :
    Calls Tryd.prog 22 #[.agg #[.map (some mb), .slice (some ⟨sb, so, none⟩) 28 sc], .agg #[.int .i64 k, .string s, .int .i64 n, .int .i64 pos]] w fun e w' => (∃ x, e = .returned (.tuple #[.string x, .bool false])) ∧ Below w.heap.size w w' := by
  have hb0 : Below w.heap.size w ((w.alloc (.cells #[.map (some mb), .slice (some ⟨sb, so, none⟩) 28 sc] 48)).alloc (.cells #[.int .i64 k, .string s, .int .i64 n, .int .i64 pos] 32)) := below_then (below_alloc _ _) (below_alloc _ _)
  have HC := Lib.hid (Number_c n ((w.alloc (.cells #[.map (some mb), .slice (some ⟨sb, so, none⟩) 28 sc] 48)).alloc (.cells #[.int .i64 k, .string s, .int .i64 n, .int .i64 pos] 32)) h0 h1 (ht.keep hb0))
  unfold NumE at HC
  rw [hn] at HC
  clear hn ht
  go_enter Tryd.func22, Tryd.ntmps22
  go_wp2_with (go_at_call 9; refine HC.out.mono ?_; rintro e w3 ⟨rfl, hb3⟩; have r1 : w3.cell? ⟨w.heap.size + 1, 1, none⟩ = some (.string s) := (hb3.cell (p := ⟨w.heap.size + 1, 1, none⟩) (by simp)).trans (by simp))
  go_quiet (fail)
  go_wp2
  go_ret2
  exact ⟨by first | rfl | exact ⟨_, rfl⟩, below_drewN (below_then hb0 hb3) _⟩
set_option maxRecDepth 100000 in
set_option maxHeartbeats 2000000 in
theorem write_num3 (w : World) (mb sb so sc : Nat) (k n pos : Int) (s : ByteArray) (hs : s.size ≤ 140737488351232) (f0 : (k == 0) = false) (f2 : (k == 2) = true) (h0 : -9223372036854775808 ≤ n) (h1 : n ≤ 9223372036854775807) (ht : Tab w) (x : LX.Bs) (hn : LX.numberR n = (x, 1)) :
    Calls Tryd.prog 22 #[.agg #[.map (some mb), .slice (some ⟨sb, so, none⟩) 28 sc], .agg #[.int .i64 k, .string s, .int .i64 n, .int .i64 pos]] w fun e w' => (∃ x, e = .returned (.tuple #[.string x, .bool false])) ∧ Below w.heap.size w w' := by
  have hb0 : Below w.heap.size w ((w.alloc (.cells #[.map (some mb), .slice (some ⟨sb, so, none⟩) 28 sc] 48)).alloc (.cells #[.int .i64 k, .string s, .int .i64 n, .int .i64 pos] 32)) := below_then (below_alloc _ _) (below_alloc _ _)
  have HC := Lib.hid (Number_c n ((w.alloc (.cells #[.map (some mb), .slice (some ⟨sb, so, none⟩) 28 sc] 48)).alloc (.cells #[.int .i64 k, .string s, .int .i64 n, .int .i64 pos] 32)) h0 h1 (ht.keep hb0))
  unfold NumE at HC
  rw [hn] at HC
  clear hn ht
  go_enter Tryd.func22, Tryd.ntmps22
  go_wp2_with (go_at_call 9; refine HC.out.mono ?_; rintro e w3 ⟨rfl, hb3⟩; have r1 : w3.cell? ⟨w.heap.size + 1, 1, none⟩ = some (.string s) := (hb3.cell (p := ⟨w.heap.size + 1, 1, none⟩) (by simp)).trans (by simp))
  go_quiet (fail)
  go_wp2
  go_ret2
  exact ⟨by first | rfl | exact ⟨_, rfl⟩, below_drewN (below_then hb0 hb3) _⟩
set_option maxRecDepth 100000 in
set_option maxHeartbeats 2000000 in
theorem write_str1 (w : World) (mb sb so sc : Nat) (k n pos : Int) (s : ByteArray) (hs : s.size ≤ 140737488351232) (f0 : (k == 0) = false) (f2 : (k == 2) = false) (f3 : (k == 3) = true) (x : LX.Bs) (hn : LX.quoteR (bs s) = (x, 0)) (g1 : (n == 0) = true) :
    Calls Tryd.prog 22 #[.agg #[.map (some mb), .slice (some ⟨sb, so, none⟩) 28 sc], .agg #[.int .i64 k, .string s, .int .i64 n, .int .i64 pos]] w fun e w' => e = .returned (.tuple #[.string ⟨x.toArray⟩, .bool true]) ∧ Below w.heap.size w w' := by
  have hb0 : Below w.heap.size w ((w.alloc (.cells #[.map (some mb), .slice (some ⟨sb, so, none⟩) 28 sc] 48)).alloc (.cells #[.int .i64 k, .string s, .int .i64 n, .int .i64 pos] 32)) := below_then (below_alloc _ _) (below_alloc _ _)
  have HC := Lib.hid (Quote_c s ((w.alloc (.cells #[.map (some mb), .slice (some ⟨sb, so, none⟩) 28 sc] 48)).alloc (.cells #[.int .i64 k, .string s, .int .i64 n, .int .i64 pos] 32)) hs)
  rw [hn] at HC
  clear hn
  go_enter Tryd.func22, Tryd.ntmps22
  go_wp2_with (go_at_call 7; refine HC.out.mono ?_; rintro e w3 ⟨rfl, hb3⟩; have r1 : w3.cell? ⟨w.heap.size + 1, 2, none⟩ = some (.int .i64 n) := (hb3.cell (p := ⟨w.heap.size + 1, 2, none⟩) (by simp)).trans (by simp))
  go_quiet (fail)
  go_wp2
  go_ret2
  exact ⟨by first | rfl | exact ⟨_, rfl⟩, below_drewN (below_then hb0 hb3) _⟩
set_option maxRecDepth 100000 in
set_option maxHeartbeats 2000000 in
theorem write_str2 (w : World) (mb sb so sc : Nat) (k n pos : Int) (s : ByteArray) (hs : s.size ≤ 140737488351232) (f0 : (k == 0) = false) (f2 : (k == 2) = false) (f3 : (k == 3) = true) (x : LX.Bs) (hn : LX.quoteR (bs s) = (x, 0)) (g1 : (n == 0) = false) :
    Calls Tryd.prog 22 #[.agg #[.map (some mb), .slice (some ⟨sb, so, none⟩) 28 sc], .agg #[.int .i64 k, .string s, .int .i64 n, .int .i64 pos]] w fun e w' => (∃ x, e = .returned (.tuple #[.string x, .bool false])) ∧ Below w.heap.size w w' := by
  have hb0 : Below w.heap.size w ((w.alloc (.cells #[.map (some mb), .slice (some ⟨sb, so, none⟩) 28 sc] 48)).alloc (.cells #[.int .i64 k, .string s, .int .i64 n, .int .i64 pos] 32)) := below_then (below_alloc _ _) (below_alloc _ _)
  have HC := Lib.hid (Quote_c s ((w.alloc (.cells #[.map (some mb), .slice (some ⟨sb, so, none⟩) 28 sc] 48)).alloc (.cells #[.int .i64 k, .string s, .int .i64 n, .int .i64 pos] 32)) hs)
  rw [hn] at HC
  clear hn
  go_enter Tryd.func22, Tryd.ntmps22
  go_wp2_with (go_at_call 7; refine HC.out.mono ?_; rintro e w3 ⟨rfl, hb3⟩; have r1 : w3.cell? ⟨w.heap.size + 1, 2, none⟩ = some (.int .i64 n) := (hb3.cell (p := ⟨w.heap.size + 1, 2, none⟩) (by simp)).trans (by simp))
  go_quiet (fail)
  go_wp2
  go_ret2
  exact ⟨by first | rfl | exact ⟨_, rfl⟩, below_drewN (below_then hb0 hb3) _⟩
set_option maxRecDepth 100000 in
set_option maxHeartbeats 2000000 in
theorem write_str3 (w : World) (mb sb so sc : Nat) (k n pos : Int) (s : ByteArray) (hs : s.size ≤ 140737488351232) (f0 : (k == 0) = false) (f2 : (k == 2) = false) (f3 : (k == 3) = true) (x : LX.Bs) (hn : LX.quoteR (bs s) = (x, 3)) :
    Calls Tryd.prog 22 #[.agg #[.map (some mb), .slice (some ⟨sb, so, none⟩) 28 sc], .agg #[.int .i64 k, .string s, .int .i64 n, .int .i64 pos]] w fun e w' => (∃ x, e = .returned (.tuple #[.string x, .bool false])) ∧ Below w.heap.size w w' := by
  have hb0 : Below w.heap.size w ((w.alloc (.cells #[.map (some mb), .slice (some ⟨sb, so, none⟩) 28 sc] 48)).alloc (.cells #[.int .i64 k, .string s, .int .i64 n, .int .i64 pos] 32)) := below_then (below_alloc _ _) (below_alloc _ _)
  have HC := Lib.hid (Quote_c s ((w.alloc (.cells #[.map (some mb), .slice (some ⟨sb, so, none⟩) 28 sc] 48)).alloc (.cells #[.int .i64 k, .string s, .int .i64 n, .int .i64 pos] 32)) hs)
  rw [hn] at HC
  clear hn
  go_enter Tryd.func22, Tryd.ntmps22
  go_wp2_with (go_at_call 7; refine HC.out.mono ?_; rintro e w3 ⟨rfl, hb3⟩; have r1 : w3.cell? ⟨w.heap.size + 1, 2, none⟩ = some (.int .i64 n) := (hb3.cell (p := ⟨w.heap.size + 1, 2, none⟩) (by simp)).trans (by simp))
  go_quiet (fail)
  go_wp2
  go_ret2
  exact ⟨by first | rfl | exact ⟨_, rfl⟩, below_drewN (below_then hb0 hb3) _⟩
set_option maxRecDepth 100000 in
set_option maxHeartbeats 2000000 in
theorem write_str4 (w : World) (mb sb so sc : Nat) (k n pos : Int) (s : ByteArray) (hs : s.size ≤ 140737488351232) (f0 : (k == 0) = false) (f2 : (k == 2) = false) (f3 : (k == 3) = true) (x : LX.Bs) (hn : LX.quoteR (bs s) = (x, 2)) :
    Calls Tryd.prog 22 #[.agg #[.map (some mb), .slice (some ⟨sb, so, none⟩) 28 sc], .agg #[.int .i64 k, .string s, .int .i64 n, .int .i64 pos]] w fun e w' => (∃ x, e = .returned (.tuple #[.string x, .bool false])) ∧ Below w.heap.size w w' := by
  have hb0 : Below w.heap.size w ((w.alloc (.cells #[.map (some mb), .slice (some ⟨sb, so, none⟩) 28 sc] 48)).alloc (.cells #[.int .i64 k, .string s, .int .i64 n, .int .i64 pos] 32)) := below_then (below_alloc _ _) (below_alloc _ _)
  have HC := Lib.hid (Quote_c s ((w.alloc (.cells #[.map (some mb), .slice (some ⟨sb, so, none⟩) 28 sc] 48)).alloc (.cells #[.int .i64 k, .string s, .int .i64 n, .int .i64 pos] 32)) hs)
  rw [hn] at HC
  clear hn
  go_enter Tryd.func22, Tryd.ntmps22
  go_wp2_with (go_at_call 7; refine HC.out.mono ?_; rintro e w3 ⟨rfl, hb3⟩; have r1 : w3.cell? ⟨w.heap.size + 1, 2, none⟩ = some (.int .i64 n) := (hb3.cell (p := ⟨w.heap.size + 1, 2, none⟩) (by simp)).trans (by simp))
  go_quiet (fail)
  go_wp2
  go_ret2
  exact ⟨by first | rfl | exact ⟨_, rfl⟩, below_drewN (below_then hb0 hb3) _⟩
set_option maxRecDepth 100000 in
set_option maxHeartbeats 2000000 in
theorem write_name1 (w : World) (mb sb so sc : Nat) (k n pos : Int) (s : ByteArray) (hs : s.size ≤ 140737488351232) (f0 : (k == 0) = false) (f2 : (k == 2) = false) (f3 : (k == 3) = false) (f1 : (k == 1) = true) (hK : Keys w mb) (hin : decide (bs s ∈ LX.keyL) = false) (hw : LX.isWordB (bs s) = true) (g1 : (n == 0) = true) :
    Calls Tryd.prog 22 #[.agg #[.map (some mb), .slice (some ⟨sb, so, none⟩) 28 sc], .agg #[.int .i64 k, .string s, .int .i64 n, .int .i64 pos]] w fun e w' => e = .returned (.tuple #[.string s, .bool true]) ∧ Below w.heap.size w w' := by
  have hb0 : Below w.heap.size w ((w.alloc (.cells #[.map (some mb), .slice (some ⟨sb, so, none⟩) 28 sc] 48)).alloc (.cells #[.int .i64 k, .string s, .int .i64 n, .int .i64 pos] 32)) := below_then (below_alloc _ _) (below_alloc _ _)
  have HW := Lib.hid (fun W => isWord_q s true hw W hs)
  clear hw
  have hk0 : Keys ((w.alloc (.cells #[.map (some mb), .slice (some ⟨sb, so, none⟩) 28 sc] 48)).alloc (.cells #[.int .i64 k, .string s, .int .i64 n, .int .i64 pos] 32)) mb := (hK.kept (only_of_below (below_alloc w _) none) (by simp)).kept (only_of_below (below_alloc _ _) none) (by simp)
  have hlk : ∀ q, (Instr.lookup 43 (.map (some mb)) (.string s) false).run Tryd.prog (((w.alloc (.cells #[.map (some mb), .slice (some ⟨sb, so, none⟩) 28 sc] 48)).alloc (.cells #[.int .i64 k, .string s, .int .i64 n, .int .i64 pos] 32)).drewN q) = .ok (.bool false) (((w.alloc (.cells #[.map (some mb), .slice (some ⟨sb, so, none⟩) 28 sc] 48)).alloc (.cells #[.int .i64 k, .string s, .int .i64 n, .int .i64 pos] 32)).drewN q) := fun q => by
    have h := Keys.look (show Keys (((w.alloc (.cells #[.map (some mb), .slice (some ⟨sb, so, none⟩) 28 sc] 48)).alloc (.cells #[.int .i64 k, .string s, .int .i64 n, .int .i64 pos] 32)).drewN q) mb from hk0) s (by unfold maxLen; omega)
    rw [hin] at h
    exact h
  clear hk0 hK hin
  go_enter Tryd.func22, Tryd.ntmps22
  go_wp2
  go_quiet ((go_at_call 32; exact Calls.quiet_of_same (HW.out _)))
  go_wp2
  go_ret2
  exact ⟨by first | rfl | exact ⟨_, rfl⟩, below_drewN hb0 _⟩
set_option maxRecDepth 100000 in
set_option maxHeartbeats 2000000 in
theorem write_name2 (w : World) (mb sb so sc : Nat) (k n pos : Int) (s : ByteArray) (hs : s.size ≤ 140737488351232) (f0 : (k == 0) = false) (f2 : (k == 2) = false) (f3 : (k == 3) = false) (f1 : (k == 1) = true) (hK : Keys w mb) (hin : decide (bs s ∈ LX.keyL) = false) (hw : LX.isWordB (bs s) = true) (g1 : (n == 0) = false) :
    Calls Tryd.prog 22 #[.agg #[.map (some mb), .slice (some ⟨sb, so, none⟩) 28 sc], .agg #[.int .i64 k, .string s, .int .i64 n, .int .i64 pos]] w fun e w' => (∃ x, e = .returned (.tuple #[.string x, .bool false])) ∧ Below w.heap.size w w' := by
  have hb0 : Below w.heap.size w ((w.alloc (.cells #[.map (some mb), .slice (some ⟨sb, so, none⟩) 28 sc] 48)).alloc (.cells #[.int .i64 k, .string s, .int .i64 n, .int .i64 pos] 32)) := below_then (below_alloc _ _) (below_alloc _ _)
  have HW := Lib.hid (fun W => isWord_q s true hw W hs)
  clear hw
  have hk0 : Keys ((w.alloc (.cells #[.map (some mb), .slice (some ⟨sb, so, none⟩) 28 sc] 48)).alloc (.cells #[.int .i64 k, .string s, .int .i64 n, .int .i64 pos] 32)) mb := (hK.kept (only_of_below (below_alloc w _) none) (by simp)).kept (only_of_below (below_alloc _ _) none) (by simp)
  have hlk : ∀ q, (Instr.lookup 43 (.map (some mb)) (.string s) false).run Tryd.prog (((w.alloc (.cells #[.map (some mb), .slice (some ⟨sb, so, none⟩) 28 sc] 48)).alloc (.cells #[.int .i64 k, .string s, .int .i64 n, .int .i64 pos] 32)).drewN q) = .ok (.bool false) (((w.alloc (.cells #[.map (some mb), .slice (some ⟨sb, so, none⟩) 28 sc] 48)).alloc (.cells #[.int .i64 k, .string s, .int .i64 n, .int .i64 pos] 32)).drewN q) := fun q => by
    have h := Keys.look (show Keys (((w.alloc (.cells #[.map (some mb), .slice (some ⟨sb, so, none⟩) 28 sc] 48)).alloc (.cells #[.int .i64 k, .string s, .int .i64 n, .int .i64 pos] 32)).drewN q) mb from hk0) s (by unfold maxLen; omega)
    rw [hin] at h
    exact h
  clear hk0 hK hin
  go_enter Tryd.func22, Tryd.ntmps22
  go_wp2
  go_quiet ((go_at_call 32; exact Calls.quiet_of_same (HW.out _)))
  go_wp2
  go_ret2
  exact ⟨by first | rfl | exact ⟨_, rfl⟩, below_drewN hb0 _⟩
set_option maxRecDepth 100000 in
set_option maxHeartbeats 2000000 in
theorem write_name3 (w : World) (mb sb so sc : Nat) (k n pos : Int) (s : ByteArray) (hs : s.size ≤ 140737488351232) (f0 : (k == 0) = false) (f2 : (k == 2) = false) (f3 : (k == 3) = false) (f1 : (k == 1) = true) (hK : Keys w mb) (hin : decide (bs s ∈ LX.keyL) = true) (hw : LX.isWordB (bs s) = true) :
    Calls Tryd.prog 22 #[.agg #[.map (some mb), .slice (some ⟨sb, so, none⟩) 28 sc], .agg #[.int .i64 k, .string s, .int .i64 n, .int .i64 pos]] w fun e w' => (∃ x, e = .returned (.tuple #[.string x, .bool false])) ∧ Below w.heap.size w w' := by
  have hb0 : Below w.heap.size w ((w.alloc (.cells #[.map (some mb), .slice (some ⟨sb, so, none⟩) 28 sc] 48)).alloc (.cells #[.int .i64 k, .string s, .int .i64 n, .int .i64 pos] 32)) := below_then (below_alloc _ _) (below_alloc _ _)
  have HW := Lib.hid (fun W => isWord_q s true hw W hs)
  clear hw
  have hk0 : Keys ((w.alloc (.cells #[.map (some mb), .slice (some ⟨sb, so, none⟩) 28 sc] 48)).alloc (.cells #[.int .i64 k, .string s, .int .i64 n, .int .i64 pos] 32)) mb := (hK.kept (only_of_below (below_alloc w _) none) (by simp)).kept (only_of_below (below_alloc _ _) none) (by simp)
  have hlk : ∀ q, (Instr.lookup 43 (.map (some mb)) (.string s) false).run Tryd.prog (((w.alloc (.cells #[.map (some mb), .slice (some ⟨sb, so, none⟩) 28 sc] 48)).alloc (.cells #[.int .i64 k, .string s, .int .i64 n, .int .i64 pos] 32)).drewN q) = .ok (.bool true) (((w.alloc (.cells #[.map (some mb), .slice (some ⟨sb, so, none⟩) 28 sc] 48)).alloc (.cells #[.int .i64 k, .string s, .int .i64 n, .int .i64 pos] 32)).drewN q) := fun q => by
    have h := Keys.look (show Keys (((w.alloc (.cells #[.map (some mb), .slice (some ⟨sb, so, none⟩) 28 sc] 48)).alloc (.cells #[.int .i64 k, .string s, .int .i64 n, .int .i64 pos] 32)).drewN q) mb from hk0) s (by unfold maxLen; omega)
    rw [hin] at h
    exact h
  clear hk0 hK hin
  go_enter Tryd.func22, Tryd.ntmps22
  go_wp2
  go_quiet ((go_at_call 32; exact Calls.quiet_of_same (HW.out _)))
  go_wp2
  go_ret2
  exact ⟨by first | rfl | exact ⟨_, rfl⟩, below_drewN hb0 _⟩
set_option maxRecDepth 100000 in
set_option maxHeartbeats 2000000 in
theorem write_name4 (w : World) (mb sb so sc : Nat) (k n pos : Int) (s : ByteArray) (hs : s.size ≤ 140737488351232) (f0 : (k == 0) = false) (f2 : (k == 2) = false) (f3 : (k == 3) = false) (f1 : (k == 1) = true) (hw : LX.isWordB (bs s) = false) :
    Calls Tryd.prog 22 #[.agg #[.map (some mb), .slice (some ⟨sb, so, none⟩) 28 sc], .agg #[.int .i64 k, .string s, .int .i64 n, .int .i64 pos]] w fun e w' => (∃ x, e = .returned (.tuple #[.string x, .bool false])) ∧ Below w.heap.size w w' := by
  have hb0 : Below w.heap.size w ((w.alloc (.cells #[.map (some mb), .slice (some ⟨sb, so, none⟩) 28 sc] 48)).alloc (.cells #[.int .i64 k, .string s, .int .i64 n, .int .i64 pos] 32)) := below_then (below_alloc _ _) (below_alloc _ _)
  have HW := Lib.hid (fun W => isWord_q s false hw W hs)
  clear hw
  go_enter Tryd.func22, Tryd.ntmps22
  go_wp2
  go_quiet ((go_at_call 32; exact Calls.quiet_of_same (HW.out _)))
  go_wp2
  go_ret2
  exact ⟨by first | rfl | exact ⟨_, rfl⟩, below_drewN hb0 _⟩
set_option maxRecDepth 100000 in
set_option maxHeartbeats 2000000 in
theorem write_key1 (w : World) (mb sb so sc : Nat) (k n pos : Int) (s : ByteArray) (hs : s.size ≤ 140737488351232) (f0 : (k == 0) = false) (f2 : (k == 2) = false) (f3 : (k == 3) = false) (f1 : (k == 1) = false) (f4 : (k == 4) = true) (hK : Keys w mb) (hin : decide (bs s ∈ LX.keyL) = true) (g1 : (n == 0) = true) :
    Calls Tryd.prog 22 #[.agg #[.map (some mb), .slice (some ⟨sb, so, none⟩) 28 sc], .agg #[.int .i64 k, .string s, .int .i64 n, .int .i64 pos]] w fun e w' => e = .returned (.tuple #[.string s, .bool true]) ∧ Below w.heap.size w w' := by
  have hb0 : Below w.heap.size w ((w.alloc (.cells #[.map (some mb), .slice (some ⟨sb, so, none⟩) 28 sc] 48)).alloc (.cells #[.int .i64 k, .string s, .int .i64 n, .int .i64 pos] 32)) := below_then (below_alloc _ _) (below_alloc _ _)
  have hk0 : Keys ((w.alloc (.cells #[.map (some mb), .slice (some ⟨sb, so, none⟩) 28 sc] 48)).alloc (.cells #[.int .i64 k, .string s, .int .i64 n, .int .i64 pos] 32)) mb := (hK.kept (only_of_below (below_alloc w _) none) (by simp)).kept (only_of_below (below_alloc _ _) none) (by simp)
  have hlk : ∀ q, (Instr.lookup 43 (.map (some mb)) (.string s) false).run Tryd.prog (((w.alloc (.cells #[.map (some mb), .slice (some ⟨sb, so, none⟩) 28 sc] 48)).alloc (.cells #[.int .i64 k, .string s, .int .i64 n, .int .i64 pos] 32)).drewN q) = .ok (.bool true) (((w.alloc (.cells #[.map (some mb), .slice (some ⟨sb, so, none⟩) 28 sc] 48)).alloc (.cells #[.int .i64 k, .string s, .int .i64 n, .int .i64 pos] 32)).drewN q) := fun q => by
    have h := Keys.look (show Keys (((w.alloc (.cells #[.map (some mb), .slice (some ⟨sb, so, none⟩) 28 sc] 48)).alloc (.cells #[.int .i64 k, .string s, .int .i64 n, .int .i64 pos] 32)).drewN q) mb from hk0) s (by unfold maxLen; omega)
    rw [hin] at h
    exact h
  clear hk0 hK hin
  go_enter Tryd.func22, Tryd.ntmps22
  go_wp2
  go_quiet (fail)
  go_wp2
  go_ret2
  exact ⟨by first | rfl | exact ⟨_, rfl⟩, below_drewN hb0 _⟩
set_option maxRecDepth 100000 in
set_option maxHeartbeats 2000000 in
theorem write_key2 (w : World) (mb sb so sc : Nat) (k n pos : Int) (s : ByteArray) (hs : s.size ≤ 140737488351232) (f0 : (k == 0) = false) (f2 : (k == 2) = false) (f3 : (k == 3) = false) (f1 : (k == 1) = false) (f4 : (k == 4) = true) (hK : Keys w mb) (hin : decide (bs s ∈ LX.keyL) = true) (g1 : (n == 0) = false) :
    Calls Tryd.prog 22 #[.agg #[.map (some mb), .slice (some ⟨sb, so, none⟩) 28 sc], .agg #[.int .i64 k, .string s, .int .i64 n, .int .i64 pos]] w fun e w' => (∃ x, e = .returned (.tuple #[.string x, .bool false])) ∧ Below w.heap.size w w' := by
  have hb0 : Below w.heap.size w ((w.alloc (.cells #[.map (some mb), .slice (some ⟨sb, so, none⟩) 28 sc] 48)).alloc (.cells #[.int .i64 k, .string s, .int .i64 n, .int .i64 pos] 32)) := below_then (below_alloc _ _) (below_alloc _ _)
  have hk0 : Keys ((w.alloc (.cells #[.map (some mb), .slice (some ⟨sb, so, none⟩) 28 sc] 48)).alloc (.cells #[.int .i64 k, .string s, .int .i64 n, .int .i64 pos] 32)) mb := (hK.kept (only_of_below (below_alloc w _) none) (by simp)).kept (only_of_below (below_alloc _ _) none) (by simp)
  have hlk : ∀ q, (Instr.lookup 43 (.map (some mb)) (.string s) false).run Tryd.prog (((w.alloc (.cells #[.map (some mb), .slice (some ⟨sb, so, none⟩) 28 sc] 48)).alloc (.cells #[.int .i64 k, .string s, .int .i64 n, .int .i64 pos] 32)).drewN q) = .ok (.bool true) (((w.alloc (.cells #[.map (some mb), .slice (some ⟨sb, so, none⟩) 28 sc] 48)).alloc (.cells #[.int .i64 k, .string s, .int .i64 n, .int .i64 pos] 32)).drewN q) := fun q => by
    have h := Keys.look (show Keys (((w.alloc (.cells #[.map (some mb), .slice (some ⟨sb, so, none⟩) 28 sc] 48)).alloc (.cells #[.int .i64 k, .string s, .int .i64 n, .int .i64 pos] 32)).drewN q) mb from hk0) s (by unfold maxLen; omega)
    rw [hin] at h
    exact h
  clear hk0 hK hin
  go_enter Tryd.func22, Tryd.ntmps22
  go_wp2
  go_quiet (fail)
  go_wp2
  go_ret2
  exact ⟨by first | rfl | exact ⟨_, rfl⟩, below_drewN hb0 _⟩
set_option maxRecDepth 100000 in
set_option maxHeartbeats 2000000 in
theorem write_key3 (w : World) (mb sb so sc : Nat) (k n pos : Int) (s : ByteArray) (hs : s.size ≤ 140737488351232) (f0 : (k == 0) = false) (f2 : (k == 2) = false) (f3 : (k == 3) = false) (f1 : (k == 1) = false) (f4 : (k == 4) = true) (hK : Keys w mb) (hin : decide (bs s ∈ LX.keyL) = false) :
    Calls Tryd.prog 22 #[.agg #[.map (some mb), .slice (some ⟨sb, so, none⟩) 28 sc], .agg #[.int .i64 k, .string s, .int .i64 n, .int .i64 pos]] w fun e w' => (∃ x, e = .returned (.tuple #[.string x, .bool false])) ∧ Below w.heap.size w w' := by
  have hb0 : Below w.heap.size w ((w.alloc (.cells #[.map (some mb), .slice (some ⟨sb, so, none⟩) 28 sc] 48)).alloc (.cells #[.int .i64 k, .string s, .int .i64 n, .int .i64 pos] 32)) := below_then (below_alloc _ _) (below_alloc _ _)
  have hk0 : Keys ((w.alloc (.cells #[.map (some mb), .slice (some ⟨sb, so, none⟩) 28 sc] 48)).alloc (.cells #[.int .i64 k, .string s, .int .i64 n, .int .i64 pos] 32)) mb := (hK.kept (only_of_below (below_alloc w _) none) (by simp)).kept (only_of_below (below_alloc _ _) none) (by simp)
  have hlk : ∀ q, (Instr.lookup 43 (.map (some mb)) (.string s) false).run Tryd.prog (((w.alloc (.cells #[.map (some mb), .slice (some ⟨sb, so, none⟩) 28 sc] 48)).alloc (.cells #[.int .i64 k, .string s, .int .i64 n, .int .i64 pos] 32)).drewN q) = .ok (.bool false) (((w.alloc (.cells #[.map (some mb), .slice (some ⟨sb, so, none⟩) 28 sc] 48)).alloc (.cells #[.int .i64 k, .string s, .int .i64 n, .int .i64 pos] 32)).drewN q) := fun q => by
    have h := Keys.look (show Keys (((w.alloc (.cells #[.map (some mb), .slice (some ⟨sb, so, none⟩) 28 sc] 48)).alloc (.cells #[.int .i64 k, .string s, .int .i64 n, .int .i64 pos] 32)).drewN q) mb from hk0) s (by unfold maxLen; omega)
    rw [hin] at h
    exact h
  clear hk0 hK hin
  go_enter Tryd.func22, Tryd.ntmps22
  go_wp2
  go_quiet (fail)
  go_wp2
  go_ret2
  exact ⟨by first | rfl | exact ⟨_, rfl⟩, below_drewN hb0 _⟩
set_option maxRecDepth 100000 in
set_option maxHeartbeats 2000000 in
theorem write_sign1 (w : World) (mb sb so sc : Nat) (k n pos : Int) (s : ByteArray) (hs : s.size ≤ 140737488351232) (f0 : (k == 0) = false) (f2 : (k == 2) = false) (f3 : (k == 3) = false) (f1 : (k == 1) = false) (f4 : (k == 4) = false) (f5 : (k == 5) = true) (hG : Sgs w sb so) (hin : decide (bs s ∈ LX.signL) = true) (g1 : (n == 0) = true) :
    Calls Tryd.prog 22 #[.agg #[.map (some mb), .slice (some ⟨sb, so, none⟩) 28 sc], .agg #[.int .i64 k, .string s, .int .i64 n, .int .i64 pos]] w fun e w' => e = .returned (.tuple #[.string s, .bool true]) ∧ Below w.heap.size w w' := by
  have hb0 : Below w.heap.size w ((w.alloc (.cells #[.map (some mb), .slice (some ⟨sb, so, none⟩) 28 sc] 48)).alloc (.cells #[.int .i64 k, .string s, .int .i64 n, .int .i64 pos] 32)) := below_then (below_alloc _ _) (below_alloc _ _)
  have hg0 : Sgs ((w.alloc (.cells #[.map (some mb), .slice (some ⟨sb, so, none⟩) 28 sc] 48)).alloc (.cells #[.int .i64 k, .string s, .int .i64 n, .int .i64 pos] 32)) sb so := fun i hi => (hb0.cell (p := ⟨sb, so + i, none⟩) (World.block_lt_of_cell? _ _ (hG i hi))).trans (hG i hi)
  have HC := Lib.hid (fun q => Contains_q s sb so sc true hin (((w.alloc (.cells #[.map (some mb), .slice (some ⟨sb, so, none⟩) 28 sc] 48)).alloc (.cells #[.int .i64 k, .string s, .int .i64 n, .int .i64 pos] 32)).drewN q) hg0)
  clear hg0 hG hin
  go_enter Tryd.func22, Tryd.ntmps22
  go_wp2
  go_quiet ((go_at_call 33; exact Calls.quiet_of_same (HC.out _)))
  go_wp2
  go_ret2
  exact ⟨by first | rfl | exact ⟨_, rfl⟩, below_drewN hb0 _⟩
set_option maxRecDepth 100000 in
set_option maxHeartbeats 2000000 in
theorem write_sign2 (w : World) (mb sb so sc : Nat) (k n pos : Int) (s : ByteArray) (hs : s.size ≤ 140737488351232) (f0 : (k == 0) = false) (f2 : (k == 2) = false) (f3 : (k == 3) = false) (f1 : (k == 1) = false) (f4 : (k == 4) = false) (f5 : (k == 5) = true) (hG : Sgs w sb so) (hin : decide (bs s ∈ LX.signL) = true) (g1 : (n == 0) = false) :
    Calls Tryd.prog 22 #[.agg #[.map (some mb), .slice (some ⟨sb, so, none⟩) 28 sc], .agg #[.int .i64 k, .string s, .int .i64 n, .int .i64 pos]] w fun e w' => (∃ x, e = .returned (.tuple #[.string x, .bool false])) ∧ Below w.heap.size w w' := by
  have hb0 : Below w.heap.size w ((w.alloc (.cells #[.map (some mb), .slice (some ⟨sb, so, none⟩) 28 sc] 48)).alloc (.cells #[.int .i64 k, .string s, .int .i64 n, .int .i64 pos] 32)) := below_then (below_alloc _ _) (below_alloc _ _)
  have hg0 : Sgs ((w.alloc (.cells #[.map (some mb), .slice (some ⟨sb, so, none⟩) 28 sc] 48)).alloc (.cells #[.int .i64 k, .string s, .int .i64 n, .int .i64 pos] 32)) sb so := fun i hi => (hb0.cell (p := ⟨sb, so + i, none⟩) (World.block_lt_of_cell? _ _ (hG i hi))).trans (hG i hi)
  have HC := Lib.hid (fun q => Contains_q s sb so sc true hin (((w.alloc (.cells #[.map (some mb), .slice (some ⟨sb, so, none⟩) 28 sc] 48)).alloc (.cells #[.int .i64 k, .string s, .int .i64 n, .int .i64 pos] 32)).drewN q) hg0)
  clear hg0 hG hin
  go_enter Tryd.func22, Tryd.ntmps22
  go_wp2
  go_quiet ((go_at_call 33; exact Calls.quiet_of_same (HC.out _)))
  go_wp2
  go_ret2
  exact ⟨by first | rfl | exact ⟨_, rfl⟩, below_drewN hb0 _⟩
set_option maxRecDepth 100000 in
set_option maxHeartbeats 2000000 in
theorem write_sign3 (w : World) (mb sb so sc : Nat) (k n pos : Int) (s : ByteArray) (hs : s.size ≤ 140737488351232) (f0 : (k == 0) = false) (f2 : (k == 2) = false) (f3 : (k == 3) = false) (f1 : (k == 1) = false) (f4 : (k == 4) = false) (f5 : (k == 5) = true) (hG : Sgs w sb so) (hin : decide (bs s ∈ LX.signL) = false) :
    Calls Tryd.prog 22 #[.agg #[.map (some mb), .slice (some ⟨sb, so, none⟩) 28 sc], .agg #[.int .i64 k, .string s, .int .i64 n, .int .i64 pos]] w fun e w' => (∃ x, e = .returned (.tuple #[.string x, .bool false])) ∧ Below w.heap.size w w' := by
  have hb0 : Below w.heap.size w ((w.alloc (.cells #[.map (some mb), .slice (some ⟨sb, so, none⟩) 28 sc] 48)).alloc (.cells #[.int .i64 k, .string s, .int .i64 n, .int .i64 pos] 32)) := below_then (below_alloc _ _) (below_alloc _ _)
  have hg0 : Sgs ((w.alloc (.cells #[.map (some mb), .slice (some ⟨sb, so, none⟩) 28 sc] 48)).alloc (.cells #[.int .i64 k, .string s, .int .i64 n, .int .i64 pos] 32)) sb so := fun i hi => (hb0.cell (p := ⟨sb, so + i, none⟩) (World.block_lt_of_cell? _ _ (hG i hi))).trans (hG i hi)
  have HC := Lib.hid (fun q => Contains_q s sb so sc false hin (((w.alloc (.cells #[.map (some mb), .slice (some ⟨sb, so, none⟩) 28 sc] 48)).alloc (.cells #[.int .i64 k, .string s, .int .i64 n, .int .i64 pos] 32)).drewN q) hg0)
  clear hg0 hG hin
  go_enter Tryd.func22, Tryd.ntmps22
  go_wp2
  go_quiet ((go_at_call 33; exact Calls.quiet_of_same (HC.out _)))
  go_wp2
  go_ret2
  exact ⟨by first | rfl | exact ⟨_, rfl⟩, below_drewN hb0 _⟩
set_option maxRecDepth 100000 in
set_option maxHeartbeats 2000000 in
theorem write_other (w : World) (mb sb so sc : Nat) (k n pos : Int) (s : ByteArray) (hs : s.size ≤ 140737488351232) (f0 : (k == 0) = false) (f1 : (k == 1) = false) (f2 : (k == 2) = false) (f3 : (k == 3) = false) (f4 : (k == 4) = false) (f5 : (k == 5) = false) :
    Calls Tryd.prog 22 #[.agg #[.map (some mb), .slice (some ⟨sb, so, none⟩) 28 sc], .agg #[.int .i64 k, .string s, .int .i64 n, .int .i64 pos]] w fun e w' => (∃ x, e = .returned (.tuple #[.string x, .bool false])) ∧ Below w.heap.size w w' := by
  have hb0 : Below w.heap.size w ((w.alloc (.cells #[.map (some mb), .slice (some ⟨sb, so, none⟩) 28 sc] 48)).alloc (.cells #[.int .i64 k, .string s, .int .i64 n, .int .i64 pos] 32)) := below_then (below_alloc _ _) (below_alloc _ _)
  go_enter Tryd.func22, Tryd.ntmps22
  go_wp2
  go_ret2
  exact ⟨⟨_, rfl⟩, hb0⟩
end Go.Proofs.YtpcepfoebkmbgaaDoor
namespace Go.Proofs.YtpcepfoebkmbgaaDoor
open Go.RowKit
set_option linter.unusedVariables false
theorem kT {k m : Int} (h : k = m) : (k == m) = true := by simp [h]
theorem kF {k m : Int} (h : k ≠ m) : (k == m) = false := by simpa using h
theorem write_end (w : World) (mb sb so sc : Nat) (k n pos : Int) (s : ByteArray) (hs : s.size ≤ 140737488351232) (hk : k = 0) :
    Calls Tryd.prog 22 #[.agg #[.map (some mb), .slice (some ⟨sb, so, none⟩) 28 sc], .agg #[.int .i64 k, .string s, .int .i64 n, .int .i64 pos]] w fun e w' => e = .returned (.tuple #[.string ⟨#[]⟩, .bool (decide (bs s = [] ∧ n = 0))]) ∧ Below w.heap.size w w' := by
  by_cases h1 : bs s = []
  · by_cases h2 : n = 0
    · rw [show decide (bs s = [] ∧ n = 0) = true from by simp [h1, h2]]
      exact write_end1 w mb sb so sc k n pos s hs (kT hk) (empty_yes h1) (kT h2)
    · rw [show decide (bs s = [] ∧ n = 0) = false from by simp [h1, h2]]
      exact write_end2 w mb sb so sc k n pos s hs (kT hk) (empty_yes h1) (kF h2)
  · rw [show decide (bs s = [] ∧ n = 0) = false from by simp [h1]]
    exact write_end3 w mb sb so sc k n pos s hs (kT hk) (empty_no h1)
/-- how a token that is not the end is written -/
theorem write_c (w : World) (mb sb so sc : Nat) (hK : Keys w mb) (hG : Sgs w sb so) (ht : Tab w) (k n pos : Int) (s : ByteArray) (hs : s.size ≤ 140737488351232) (h0 : -9223372036854775808 ≤ n) (h1 : n ≤ 9223372036854775807) (hk0 : k ≠ 0) :
    Calls Tryd.prog 22 #[.agg #[.map (some mb), .slice (some ⟨sb, so, none⟩) 28 sc], .agg #[.int .i64 k, .string s, .int .i64 n, .int .i64 pos]] w fun e w' => WriteE ⟨k, bs s, n, pos⟩ e ∧ Below w.heap.size w w' := by
  have es := bs_str s
  have yes : ∀ {P : Prop} {f : FuncId} {args : Array Value} {x : LX.Bs} {y : ByteArray}, LX.wrt ⟨k, bs s, n, pos⟩ = some x → y = ⟨x.toArray⟩ → (Calls Tryd.prog f args w fun e w' => e = .returned (.tuple #[.string y, .bool true]) ∧ Below w.heap.size w w') → Calls Tryd.prog f args w fun e w' => WriteE ⟨k, bs s, n, pos⟩ e ∧ Below w.heap.size w w' :=
    fun hx hy hc => hc.mono fun e w' ⟨h, hb⟩ => ⟨by rw [h]; exact .yes hx hy, hb⟩
  have no : ∀ {f : FuncId} {args : Array Value}, LX.wrt ⟨k, bs s, n, pos⟩ = none → (Calls Tryd.prog f args w fun e w' => (∃ x, e = .returned (.tuple #[.string x, .bool false])) ∧ Below w.heap.size w w') → Calls Tryd.prog f args w fun e w' => WriteE ⟨k, bs s, n, pos⟩ e ∧ Below w.heap.size w w' :=
    fun hx hc => hc.mono fun e w' ⟨⟨x, h⟩, hb⟩ => ⟨by rw [h]; exact .no hx, hb⟩
  by_cases k2 : k = 2
  · have hw : LX.wrt ⟨k, bs s, n, pos⟩ = (if -2147483648 ≤ n ∧ n ≤ 2147483647 ∧ bs s = [] then some (LX.numW n) else none) := by unfold LX.wrt; rw [if_neg (by simp [k2]), if_neg (by simp [k2]), if_neg (by simp [k2]), if_pos k2]
    by_cases hr : n < -2147483648 ∨ 2147483647 < n
    · exact no (by rw [hw, if_neg (by omega)]) (write_num3 w mb sb so sc k n pos s hs (kF hk0) (kT k2) h0 h1 ht [] (LX.numberR_bad hr))
    · have hn : LX.numberR n = (LX.numW n, 0) := by unfold LX.numberR; rw [if_neg hr]
      by_cases he : bs s = []
      · exact yes (P := True) (by rw [hw, if_pos ⟨by omega, by omega, he⟩]) rfl (write_num1 w mb sb so sc k n pos s hs (kF hk0) (kT k2) h0 h1 ht _ hn (empty_yes he))
      · exact no (by rw [hw, if_neg (fun h => he h.2.2)]) (write_num2 w mb sb so sc k n pos s hs (kF hk0) (kT k2) h0 h1 ht _ hn (empty_no he))
  by_cases k3 : k = 3
  · have hw : LX.wrt ⟨k, bs s, n, pos⟩ = (if (bs s).all LX.okq = true ∧ (bs s).length ≤ 100 ∧ n = 0 then some (LX.quote (bs s)) else none) := by unfold LX.wrt; rw [if_neg (by simp [k3]), if_neg (by simp [k3]), if_neg (by simp [k3]), if_neg k2, if_pos k3]
    by_cases ha : (bs s).all LX.okq = true
    · by_cases hl : 100 < (bs s).length
      · exact no (by rw [hw, if_neg (by omega)]) (write_str4 w mb sb so sc k n pos s hs (kF hk0) (kF k2) (kT k3) [] (LX.quoteR_long ha hl))
      · by_cases h2 : n = 0
        · exact yes (P := True) (by rw [hw, if_pos ⟨ha, by omega, h2⟩]) rfl (write_str1 w mb sb so sc k n pos s hs (kF hk0) (kF k2) (kT k3) _ (LX.quoteR_good ha hl) (kT h2))
        · exact no (by rw [hw, if_neg (fun h => h2 h.2.2)]) (write_str2 w mb sb so sc k n pos s hs (kF hk0) (kF k2) (kT k3) _ (LX.quoteR_good ha hl) (kF h2))
    · have hb : LX.quoteR (bs s) = ([], 3) := by unfold LX.quoteR; rw [if_pos (by simpa using ha)]
      exact no (by rw [hw, if_neg (fun h => ha h.1)]) (write_str3 w mb sb so sc k n pos s hs (kF hk0) (kF k2) (kT k3) [] hb)
  by_cases k1 : k = 1
  · have hw : LX.wrt ⟨k, bs s, n, pos⟩ = (if LX.isNameB (bs s) = true ∧ n = 0 then some (bs s) else none) := by unfold LX.wrt; rw [if_pos k1]
    cases hwd : LX.isWordB (bs s) with
    | false => exact no (by rw [hw, if_neg]; rintro ⟨h, _⟩; simp [LX.isNameB, hwd] at h) (write_name4 w mb sb so sc k n pos s hs (kF hk0) (kF k2) (kF k3) (kT k1) hwd)
    | true =>
      by_cases hin : bs s ∈ LX.keyL
      · exact no (by rw [hw, if_neg]; rintro ⟨h, _⟩; simp [LX.isNameB, hwd, hin] at h) (write_name3 w mb sb so sc k n pos s hs (kF hk0) (kF k2) (kF k3) (kT k1) hK (by simpa using hin) hwd)
      · have hnm : LX.isNameB (bs s) = true := by simp [LX.isNameB, hwd, hin]
        by_cases h2 : n = 0
        · exact yes (P := True) (by rw [hw, if_pos ⟨hnm, h2⟩]) es (write_name1 w mb sb so sc k n pos s hs (kF hk0) (kF k2) (kF k3) (kT k1) hK (by simpa using hin) hwd (kT h2))
        · exact no (by rw [hw, if_neg (fun h => h2 h.2)]) (write_name2 w mb sb so sc k n pos s hs (kF hk0) (kF k2) (kF k3) (kT k1) hK (by simpa using hin) hwd (kF h2))
  by_cases k4 : k = 4
  · have hw : LX.wrt ⟨k, bs s, n, pos⟩ = (if bs s ∈ LX.keyL ∧ n = 0 then some (bs s) else none) := by unfold LX.wrt; rw [if_neg k1, if_pos k4]
    by_cases hin : bs s ∈ LX.keyL
    · by_cases h2 : n = 0
      · exact yes (P := True) (by rw [hw, if_pos ⟨hin, h2⟩]) es (write_key1 w mb sb so sc k n pos s hs (kF hk0) (kF k2) (kF k3) (kF k1) (kT k4) hK (by simpa using hin) (kT h2))
      · exact no (by rw [hw, if_neg (fun h => h2 h.2)]) (write_key2 w mb sb so sc k n pos s hs (kF hk0) (kF k2) (kF k3) (kF k1) (kT k4) hK (by simpa using hin) (kF h2))
    · exact no (by rw [hw, if_neg (fun h => hin h.1)]) (write_key3 w mb sb so sc k n pos s hs (kF hk0) (kF k2) (kF k3) (kF k1) (kT k4) hK (by simpa using hin))
  by_cases k5 : k = 5
  · have hw : LX.wrt ⟨k, bs s, n, pos⟩ = (if bs s ∈ LX.signL ∧ n = 0 then some (bs s) else none) := by unfold LX.wrt; rw [if_neg k1, if_neg k4, if_pos k5]
    by_cases hin : bs s ∈ LX.signL
    · by_cases h2 : n = 0
      · exact yes (P := True) (by rw [hw, if_pos ⟨hin, h2⟩]) es (write_sign1 w mb sb so sc k n pos s hs (kF hk0) (kF k2) (kF k3) (kF k1) (kF k4) (kT k5) hG (by simpa using hin) (kT h2))
      · exact no (by rw [hw, if_neg (fun h => h2 h.2)]) (write_sign2 w mb sb so sc k n pos s hs (kF hk0) (kF k2) (kF k3) (kF k1) (kF k4) (kT k5) hG (by simpa using hin) (kF h2))
    · exact no (by rw [hw, if_neg (fun h => hin h.1)]) (write_sign3 w mb sb so sc k n pos s hs (kF hk0) (kF k2) (kF k3) (kF k1) (kF k4) (kT k5) hG (by simpa using hin))
  exact no (by unfold LX.wrt; rw [if_neg k1, if_neg k4, if_neg k5, if_neg k2, if_neg k3]) (write_other w mb sb so sc k n pos s hs (kF hk0) (kF k1) (kF k2) (kF k3) (kF k4) (kF k5))
end Go.Proofs.YtpcepfoebkmbgaaDoor
