/- The document's answer: how a token is written, and the text of tokens. -/
import Derived.Test.YtpcepfoebkmbgaaDoorLxTxt
import Derived.Deep.RegionHeld3
import Derived.Deep.RegionWith
namespace Go.Proofs.YtpcepfoebkmbgaaDoor
open Go.RowKit
set_option linter.unusedVariables false
set_option linter.unusedSimpArgs false
theorem takeH {P : Program} {ops : Array Oper} {Q : Exit → Act → World → Prop} {md : Region.Mode} {S : World → Prop} {i : Nat} {d : Tmp} {oi : Oper} {v : Value} {fuel : Nat} {listed : Array Bool} {a : Act} {w : World} (hi : ops[i]? = some oi) (hd : oi.dst = some d)
    (hs : Region.noSelect ops = true) (hf : Region.free md ops listed i = true) (hr : (Region.ready md ops listed).contains i = true)
    (hQ : ∀ c a w, Q (.panic c) (a.put (some d) v) w → Q (.panic c) a w) (hy : YieldsIf P ops S oi v a) (hS : S w)
    (h : wpAnyH P md ops Q S fuel (listed.setIfInBounds i true) (a.put (some d) v) w) : wpAnyH P md ops Q S (fuel + 1) listed a w :=
  wpAnyH_take hi hs hf hr (by rw [hd]; exact hQ) hy hS (by rw [hd]; exact h)
theorem has_s (s : ByteArray) (v : Value) (xs : List LX.Bs) (b : Bool) (h : decide (bs s ∈ xs) = b) (w : World) (hr : RdS w v xs) :
    Calls Tryd.prog 36 #[v, .string s] w fun e w' => e = .returned (.bool b) ∧ w = w' := by
  have h2 := has_c v xs (bs s) w hr
  rw [← bs_str s, h] at h2
  exact h2
set_option maxRecDepth 100000 in
set_option maxHeartbeats 2000000 in
theorem rwrite_num1 (w : World) (k n pos : Int) (s : ByteArray) (hs : s.size ≤ 140737488351232) (f1 : (k == 1) = false) (f4 : (k == 4) = false) (f5 : (k == 5) = false) (f2 : (k == 2) = true) (h0 : -9223372036854775808 ≤ n) (h1 : n ≤ 9223372036854775807) (x : LX.Bs) (hn : LX.numberR n = (x, 0)) (g1 : s.toList.isEmpty = true) :
    Calls Tryd.prog 26 #[.agg #[.int .i64 k, .string s, .int .i64 n, .int .i64 pos]] w fun e w' => e = .returned (.tuple #[.string ⟨x.toArray⟩, .bool true]) ∧ Below w.heap.size w w' := by
  have hb0 : Below w.heap.size w (w.alloc (.cells #[.int .i64 k, .string s, .int .i64 n, .int .i64 pos] 32)) := below_alloc _ _
  have HC := Lib.hid (refNumber_c n (w.alloc (.cells #[.int .i64 k, .string s, .int .i64 n, .int .i64 pos] 32)) h0 h1)
  unfold NumE at HC
  rw [hn] at HC
  clear hn
  go_enter Tryd.func26, Tryd.ntmps26
  go_wp2_with (go_at_call 10; refine HC.out.mono ?_; rintro e w3 ⟨rfl, hb3⟩; have r1 : w3.cell? ⟨w.heap.size, 1, none⟩ = some (.string s) := (hb3.cell (p := ⟨w.heap.size, 1, none⟩) (by simp)).trans (by simp))
  go_quiet (fail)
  go_wp2
  go_ret2
  exact ⟨by first | rfl | exact ⟨_, rfl⟩, below_drewN (below_then hb0 hb3) _⟩
set_option maxRecDepth 100000 in
set_option maxHeartbeats 2000000 in
theorem rwrite_num2 (w : World) (k n pos : Int) (s : ByteArray) (hs : s.size ≤ 140737488351232) (f1 : (k == 1) = false) (f4 : (k == 4) = false) (f5 : (k == 5) = false) (f2 : (k == 2) = true) (h0 : -9223372036854775808 ≤ n) (h1 : n ≤ 9223372036854775807) (x : LX.Bs) (hn : LX.numberR n = (x, 0)) (g1 : s.toList.isEmpty = false) :
    Calls Tryd.prog 26 #[.agg #[.int .i64 k, .string s, .int .i64 n, .int .i64 pos]] w fun e w' => (∃ x, e = .returned (.tuple #[.string x, .bool false])) ∧ Below w.heap.size w w' := by
  have hb0 : Below w.heap.size w (w.alloc (.cells #[.int .i64 k, .string s, .int .i64 n, .int .i64 pos] 32)) := below_alloc _ _
  have HC := Lib.hid (refNumber_c n (w.alloc (.cells #[.int .i64 k, .string s, .int .i64 n, .int .i64 pos] 32)) h0 h1)
  unfold NumE at HC
  rw [hn] at HC
  clear hn
  go_enter Tryd.func26, Tryd.ntmps26
  go_wp2_with (go_at_call 10; refine HC.out.mono ?_; rintro e w3 ⟨rfl, hb3⟩; have r1 : w3.cell? ⟨w.heap.size, 1, none⟩ = some (.string s) := (hb3.cell (p := ⟨w.heap.size, 1, none⟩) (by simp)).trans (by simp))
  go_quiet (fail)
  go_wp2
  go_ret2
  exact ⟨by first | rfl | exact ⟨_, rfl⟩, below_drewN (below_then hb0 hb3) _⟩
set_option maxRecDepth 100000 in
set_option maxHeartbeats 2000000 in
theorem rwrite_num3 (w : World) (k n pos : Int) (s : ByteArray) (hs : s.size ≤ 140737488351232) (f1 : (k == 1) = false) (f4 : (k == 4) = false) (f5 : (k == 5) = false) (f2 : (k == 2) = true) (h0 : -9223372036854775808 ≤ n) (h1 : n ≤ 9223372036854775807) (x : LX.Bs) (hn : LX.numberR n = (x, 1)) :
    Calls Tryd.prog 26 #[.agg #[.int .i64 k, .string s, .int .i64 n, .int .i64 pos]] w fun e w' => (∃ x, e = .returned (.tuple #[.string x, .bool false])) ∧ Below w.heap.size w w' := by
  have hb0 : Below w.heap.size w (w.alloc (.cells #[.int .i64 k, .string s, .int .i64 n, .int .i64 pos] 32)) := below_alloc _ _
  have HC := Lib.hid (refNumber_c n (w.alloc (.cells #[.int .i64 k, .string s, .int .i64 n, .int .i64 pos] 32)) h0 h1)
  unfold NumE at HC
  rw [hn] at HC
  clear hn
  go_enter Tryd.func26, Tryd.ntmps26
  go_wp2_with (go_at_call 10; refine HC.out.mono ?_; rintro e w3 ⟨rfl, hb3⟩; have r1 : w3.cell? ⟨w.heap.size, 1, none⟩ = some (.string s) := (hb3.cell (p := ⟨w.heap.size, 1, none⟩) (by simp)).trans (by simp))
  go_quiet (fail)
  go_wp2
  go_ret2
  exact ⟨by first | rfl | exact ⟨_, rfl⟩, below_drewN (below_then hb0 hb3) _⟩
set_option maxRecDepth 100000 in
set_option maxHeartbeats 2000000 in
theorem rwrite_str1 (w : World) (k n pos : Int) (s : ByteArray) (hs : s.size ≤ 140737488351232) (f1 : (k == 1) = false) (f4 : (k == 4) = false) (f5 : (k == 5) = false) (f2 : (k == 2) = false) (f3 : (k == 3) = true) (x : LX.Bs) (hn : LX.quoteR (bs s) = (x, 0)) (g1 : (n == 0) = true) :
    Calls Tryd.prog 26 #[.agg #[.int .i64 k, .string s, .int .i64 n, .int .i64 pos]] w fun e w' => e = .returned (.tuple #[.string ⟨x.toArray⟩, .bool true]) ∧ Below w.heap.size w w' := by
  have hb0 : Below w.heap.size w (w.alloc (.cells #[.int .i64 k, .string s, .int .i64 n, .int .i64 pos] 32)) := below_alloc _ _
  have HC := Lib.hid (fun W => refQuote_c s W hs)
  rw [hn] at HC
  clear hn
  go_enter Tryd.func26, Tryd.ntmps26
  go_wp2_with (go_at_call 8; refine (HC.out _).mono ?_; rintro e w3 ⟨rfl, rfl⟩)
  go_quiet (fail)
  go_wp2
  go_ret2
  exact ⟨by first | rfl | exact ⟨_, rfl⟩, below_drewN hb0 _⟩
set_option maxRecDepth 100000 in
set_option maxHeartbeats 2000000 in
theorem rwrite_str2 (w : World) (k n pos : Int) (s : ByteArray) (hs : s.size ≤ 140737488351232) (f1 : (k == 1) = false) (f4 : (k == 4) = false) (f5 : (k == 5) = false) (f2 : (k == 2) = false) (f3 : (k == 3) = true) (x : LX.Bs) (hn : LX.quoteR (bs s) = (x, 0)) (g1 : (n == 0) = false) :
    Calls Tryd.prog 26 #[.agg #[.int .i64 k, .string s, .int .i64 n, .int .i64 pos]] w fun e w' => (∃ x, e = .returned (.tuple #[.string x, .bool false])) ∧ Below w.heap.size w w' := by
  have hb0 : Below w.heap.size w (w.alloc (.cells #[.int .i64 k, .string s, .int .i64 n, .int .i64 pos] 32)) := below_alloc _ _
  have HC := Lib.hid (fun W => refQuote_c s W hs)
  rw [hn] at HC
  clear hn
  go_enter Tryd.func26, Tryd.ntmps26
  go_wp2_with (go_at_call 8; refine (HC.out _).mono ?_; rintro e w3 ⟨rfl, rfl⟩)
  go_quiet (fail)
  go_wp2
  go_ret2
  exact ⟨by first | rfl | exact ⟨_, rfl⟩, below_drewN hb0 _⟩
set_option maxRecDepth 100000 in
set_option maxHeartbeats 2000000 in
theorem rwrite_str3 (w : World) (k n pos : Int) (s : ByteArray) (hs : s.size ≤ 140737488351232) (f1 : (k == 1) = false) (f4 : (k == 4) = false) (f5 : (k == 5) = false) (f2 : (k == 2) = false) (f3 : (k == 3) = true) (x : LX.Bs) (hn : LX.quoteR (bs s) = (x, 3)) :
    Calls Tryd.prog 26 #[.agg #[.int .i64 k, .string s, .int .i64 n, .int .i64 pos]] w fun e w' => (∃ x, e = .returned (.tuple #[.string x, .bool false])) ∧ Below w.heap.size w w' := by
  have hb0 : Below w.heap.size w (w.alloc (.cells #[.int .i64 k, .string s, .int .i64 n, .int .i64 pos] 32)) := below_alloc _ _
  have HC := Lib.hid (fun W => refQuote_c s W hs)
  rw [hn] at HC
  clear hn
  go_enter Tryd.func26, Tryd.ntmps26
  go_wp2_with (go_at_call 8; refine (HC.out _).mono ?_; rintro e w3 ⟨rfl, rfl⟩)
  go_quiet (fail)
  go_wp2
  go_ret2
  exact ⟨by first | rfl | exact ⟨_, rfl⟩, below_drewN hb0 _⟩
set_option maxRecDepth 100000 in
set_option maxHeartbeats 2000000 in
theorem rwrite_str4 (w : World) (k n pos : Int) (s : ByteArray) (hs : s.size ≤ 140737488351232) (f1 : (k == 1) = false) (f4 : (k == 4) = false) (f5 : (k == 5) = false) (f2 : (k == 2) = false) (f3 : (k == 3) = true) (x : LX.Bs) (hn : LX.quoteR (bs s) = (x, 2)) :
    Calls Tryd.prog 26 #[.agg #[.int .i64 k, .string s, .int .i64 n, .int .i64 pos]] w fun e w' => (∃ x, e = .returned (.tuple #[.string x, .bool false])) ∧ Below w.heap.size w w' := by
  have hb0 : Below w.heap.size w (w.alloc (.cells #[.int .i64 k, .string s, .int .i64 n, .int .i64 pos] 32)) := below_alloc _ _
  have HC := Lib.hid (fun W => refQuote_c s W hs)
  rw [hn] at HC
  clear hn
  go_enter Tryd.func26, Tryd.ntmps26
  go_wp2_with (go_at_call 8; refine (HC.out _).mono ?_; rintro e w3 ⟨rfl, rfl⟩)
  go_quiet (fail)
  go_wp2
  go_ret2
  exact ⟨by first | rfl | exact ⟨_, rfl⟩, below_drewN hb0 _⟩
set_option maxRecDepth 100000 in
set_option maxHeartbeats 2000000 in
theorem rwrite_name1 (w : World) (k n pos : Int) (s : ByteArray) (hs : s.size ≤ 140737488351232) (f1 : (k == 1) = true) (hin : LX.isNameB (bs s) = true) (g1 : (n == 0) = true) :
    Calls Tryd.prog 26 #[.agg #[.int .i64 k, .string s, .int .i64 n, .int .i64 pos]] w fun e w' => e = .returned (.tuple #[.string s, .bool true]) ∧ Below w.heap.size w w' := by
  have hb0 : Below w.heap.size w (w.alloc (.cells #[.int .i64 k, .string s, .int .i64 n, .int .i64 pos] 32)) := below_alloc _ _
  have HC := Lib.hid (fun W => refIsName_c s W (by omega))
  rw [hin] at HC
  clear hin
  go_enter Tryd.func26, Tryd.ntmps26
  go_wp2
  go_region_held3 (fun w' => w'.cell? ⟨w.heap.size, 1, none⟩ = some (.string s) ∧ w'.cell? ⟨w.heap.size, 2, none⟩ = some (.int .i64 n))
    (first | (go_split_ands; refine ⟨?_, ?_⟩; all_goals (refine (hb2.cell (World.block_lt_of_cell? _ _ (by assumption))).trans (by assumption))) | go_keep)
    ((first
      | (go_at_call 35; refine (HC.out _).mono ?_; rintro e W2 ⟨rfl, hb2⟩)))
  go_wp2
  go_ret2
  exact ⟨by first | rfl | exact ⟨_, rfl⟩, below_then (below_drewN hb0 1) hb2⟩
set_option maxRecDepth 100000 in
set_option maxHeartbeats 2000000 in
theorem rwrite_name2 (w : World) (k n pos : Int) (s : ByteArray) (hs : s.size ≤ 140737488351232) (f1 : (k == 1) = true) (hin : LX.isNameB (bs s) = true) (g1 : (n == 0) = false) :
    Calls Tryd.prog 26 #[.agg #[.int .i64 k, .string s, .int .i64 n, .int .i64 pos]] w fun e w' => (∃ x, e = .returned (.tuple #[.string x, .bool false])) ∧ Below w.heap.size w w' := by
  have hb0 : Below w.heap.size w (w.alloc (.cells #[.int .i64 k, .string s, .int .i64 n, .int .i64 pos] 32)) := below_alloc _ _
  have HC := Lib.hid (fun W => refIsName_c s W (by omega))
  rw [hin] at HC
  clear hin
  go_enter Tryd.func26, Tryd.ntmps26
  go_wp2
  go_region_held3 (fun w' => w'.cell? ⟨w.heap.size, 1, none⟩ = some (.string s) ∧ w'.cell? ⟨w.heap.size, 2, none⟩ = some (.int .i64 n))
    (first | (go_split_ands; refine ⟨?_, ?_⟩; all_goals (refine (hb2.cell (World.block_lt_of_cell? _ _ (by assumption))).trans (by assumption))) | go_keep)
    ((first
      | (go_at_call 35; refine (HC.out _).mono ?_; rintro e W2 ⟨rfl, hb2⟩)))
  go_wp2
  go_ret2
  exact ⟨by first | rfl | exact ⟨_, rfl⟩, below_then (below_drewN hb0 1) hb2⟩
set_option maxRecDepth 100000 in
set_option maxHeartbeats 2000000 in
theorem rwrite_name3 (w : World) (k n pos : Int) (s : ByteArray) (hs : s.size ≤ 140737488351232) (f1 : (k == 1) = true) (hin : LX.isNameB (bs s) = false) :
    Calls Tryd.prog 26 #[.agg #[.int .i64 k, .string s, .int .i64 n, .int .i64 pos]] w fun e w' => (∃ x, e = .returned (.tuple #[.string x, .bool false])) ∧ Below w.heap.size w w' := by
  have hb0 : Below w.heap.size w (w.alloc (.cells #[.int .i64 k, .string s, .int .i64 n, .int .i64 pos] 32)) := below_alloc _ _
  have HC := Lib.hid (fun W => refIsName_c s W (by omega))
  rw [hin] at HC
  clear hin
  go_enter Tryd.func26, Tryd.ntmps26
  go_wp2
  refine wp_region_held_drew (S := (fun w' => w'.cell? ⟨w.heap.size, 1, none⟩ = some (.string s))) (by kernel_rfl) ?_ (fun hHeld => ?_)
  · go_keep
  refine takeH (i := 0) (v := ?v0) rfl rfl (by kernel_rfl) (by kernel_rfl) (by kernel_rfl) (fun _ _ _ h => h) (Or.inl ⟨by rfl, ?hy0⟩) (by assumption) ?rest0
  case hy0 => (intro W hSw; (try dsimp only at hSw); go_simp; try with_reducible rfl)
  try simp only [Act.put, List.setIfInBounds_toArray, List.set_cons_zero, List.set_cons_succ]
  refine takeH (i := 2) (v := ?v2) rfl rfl (by kernel_rfl) (by kernel_rfl) (by kernel_rfl) (fun _ _ _ h => h) (Or.inl ⟨by rfl, ?hy2⟩) (by assumption) ?rest2
  case hy2 => (intro W hSw; (try dsimp only at hSw); go_simp; try with_reducible rfl)
  try simp only [Act.put, List.setIfInBounds_toArray, List.set_cons_zero, List.set_cons_succ]
  refine takeH (i := 1) (v := ?v1) rfl rfl (by kernel_rfl) (by kernel_rfl) (by kernel_rfl) (fun _ _ _ h => h) (Or.inl ⟨by rfl, ?hy1⟩) (by assumption) ?rest1
  case hy1 => (intro W hSw; (try dsimp only at hSw); go_simp; try with_reducible rfl)
  try simp only [Act.put, List.setIfInBounds_toArray, List.set_cons_zero, List.set_cons_succ]
  refine takeH (i := 3) (v := ?v3) rfl rfl (by kernel_rfl) (by kernel_rfl) (by kernel_rfl) (fun _ _ _ h => h) (Or.inl ⟨by rfl, ?hy3⟩) (by assumption) ?rest3
  case hy3 => (intro W hSw; (try dsimp only at hSw); go_simp; try with_reducible rfl)
  try simp only [Act.put, List.setIfInBounds_toArray, List.set_cons_zero, List.set_cons_succ]
  refine wpAnyH_ready (rs := [4]) (by kernel_rfl) (by simp) ?_
  refine AllReadyH.cons rfl (fun K hK => ?_) AllReadyH.nil
  go_simp
  go_at_call 35; refine (HC.out _).mono ?_; rintro e W2 ⟨rfl, hb2⟩
  refine hK.out _ _ ?_ (fun hHeld => ?_)
  · exact (hb2.cell (World.block_lt_of_cell? _ _ (by assumption))).trans (by assumption)
  clear hK K
  try simp only [Act.put, List.setIfInBounds_toArray, List.set_cons_zero, List.set_cons_succ]
  refine takeH (i := 5) (v := ?v5) rfl rfl (by kernel_rfl) (by kernel_rfl) (by kernel_rfl) (fun _ _ _ h => h) (Or.inl ⟨by rfl, ?hy5⟩) (by assumption) ?rest5
  case hy5 => (intro W hSw; (try dsimp only at hSw); go_simp; try with_reducible rfl)
  try simp only [Act.put, List.setIfInBounds_toArray, List.set_cons_zero, List.set_cons_succ]
  refine takeH (i := 6) rfl rfl (by kernel_rfl) (by kernel_rfl) (by kernel_rfl) (fun _ _ _ h => h) (Or.inr ⟨by rfl, rfl⟩) (by assumption) ?_
  try simp only [Act.put, List.setIfInBounds_toArray, List.set_cons_zero, List.set_cons_succ]
  refine takeH (i := 7) rfl rfl (by kernel_rfl) (by kernel_rfl) (by kernel_rfl) (fun _ _ _ h => h) (Or.inr ⟨by rfl, rfl⟩) (by assumption) ?_
  try simp only [Act.put, List.setIfInBounds_toArray, List.set_cons_zero, List.set_cons_succ]
  refine takeH (i := 8) rfl rfl (by kernel_rfl) (by kernel_rfl) (by kernel_rfl) (fun _ _ _ h => h) (Or.inr ⟨by rfl, rfl⟩) (by assumption) ?_
  try simp only [Act.put, List.setIfInBounds_toArray, List.set_cons_zero, List.set_cons_succ]
  refine takeH (i := 9) (v := ?v9) rfl rfl (by kernel_rfl) (by kernel_rfl) (by kernel_rfl) (fun _ _ _ h => h) (Or.inl ⟨by rfl, ?hy9⟩) (by assumption) ?rest9
  case hy9 => (intro W hSw; (try dsimp only at hSw); go_simp; try with_reducible rfl)
  try simp only [Act.put, List.setIfInBounds_toArray, List.set_cons_zero, List.set_cons_succ]
  refine takeH (i := 10) (v := ?v10) rfl rfl (by kernel_rfl) (by kernel_rfl) (by kernel_rfl) (fun _ _ _ h => h) (Or.inl ⟨by rfl, ?hy10⟩) (by assumption) ?rest10
  case hy10 => (intro W hSw; (try dsimp only at hSw); go_simp; try with_reducible rfl)
  try simp only [Act.put, List.setIfInBounds_toArray, List.set_cons_zero, List.set_cons_succ]
  refine takeH (i := 11) (v := ?v11) rfl rfl (by kernel_rfl) (by kernel_rfl) (by kernel_rfl) (fun _ _ _ h => h) (Or.inl ⟨by rfl, ?hy11⟩) (by assumption) ?rest11
  case hy11 => (intro W hSw; (try dsimp only at hSw); go_simp; try with_reducible rfl)
  try simp only [Act.put, List.setIfInBounds_toArray, List.set_cons_zero, List.set_cons_succ]
  refine wpAnyH_done (by kernel_rfl) ?_ _
  go_wp2
  go_ret2
  exact ⟨by first | rfl | exact ⟨_, rfl⟩, below_then (below_drewN hb0 1) hb2⟩
set_option maxRecDepth 100000 in
set_option maxHeartbeats 2000000 in
theorem rwrite_key1 (w : World) (k n pos : Int) (s : ByteArray) (hs : s.size ≤ 140737488351232) (f1 : (k == 1) = false) (f4 : (k == 4) = true) (hin : decide (bs s ∈ LX.keyL) = true) (g1 : (n == 0) = true) :
    Calls Tryd.prog 26 #[.agg #[.int .i64 k, .string s, .int .i64 n, .int .i64 pos]] w fun e w' => e = .returned (.tuple #[.string s, .bool true]) ∧ Below w.heap.size w w' := by
  have hb0 : Below w.heap.size w (w.alloc (.cells #[.int .i64 k, .string s, .int .i64 n, .int .i64 pos] 32)) := below_alloc _ _
  have HH := Lib.hid hin
  clear hin
  go_enter Tryd.func26, Tryd.ntmps26
  go_wp2
  go_region_held3 (fun w' => w'.cell? ⟨w.heap.size, 1, none⟩ = some (.string s) ∧ w'.cell? ⟨w.heap.size, 2, none⟩ = some (.int .i64 n))
    (first | (go_split_ands; refine ⟨?_, ?_⟩; all_goals (refine (hb2.cell (World.block_lt_of_cell? _ _ (by assumption))).trans (by assumption))) | go_keep)
    ((first
      | (go_at_call 37; refine (refKeys_c _).mono ?_; rintro e W2 ⟨v2, rfl, hr2, hb2⟩)
      | (go_at_call 36; refine (has_s s v2 LX.keyL true HH.out _ hr2).mono ?_; rintro e W3 ⟨rfl, rfl⟩)))
  go_wp2
  go_ret2
  exact ⟨by first | rfl | exact ⟨_, rfl⟩, below_then (below_drewN hb0 1) hb2⟩
set_option maxRecDepth 100000 in
set_option maxHeartbeats 2000000 in
theorem rwrite_key2 (w : World) (k n pos : Int) (s : ByteArray) (hs : s.size ≤ 140737488351232) (f1 : (k == 1) = false) (f4 : (k == 4) = true) (hin : decide (bs s ∈ LX.keyL) = true) (g1 : (n == 0) = false) :
    Calls Tryd.prog 26 #[.agg #[.int .i64 k, .string s, .int .i64 n, .int .i64 pos]] w fun e w' => (∃ x, e = .returned (.tuple #[.string x, .bool false])) ∧ Below w.heap.size w w' := by
  have hb0 : Below w.heap.size w (w.alloc (.cells #[.int .i64 k, .string s, .int .i64 n, .int .i64 pos] 32)) := below_alloc _ _
  have HH := Lib.hid hin
  clear hin
  go_enter Tryd.func26, Tryd.ntmps26
  go_wp2
  go_region_held3 (fun w' => w'.cell? ⟨w.heap.size, 1, none⟩ = some (.string s) ∧ w'.cell? ⟨w.heap.size, 2, none⟩ = some (.int .i64 n))
    (first | (go_split_ands; refine ⟨?_, ?_⟩; all_goals (refine (hb2.cell (World.block_lt_of_cell? _ _ (by assumption))).trans (by assumption))) | go_keep)
    ((first
      | (go_at_call 37; refine (refKeys_c _).mono ?_; rintro e W2 ⟨v2, rfl, hr2, hb2⟩)
      | (go_at_call 36; refine (has_s s v2 LX.keyL true HH.out _ hr2).mono ?_; rintro e W3 ⟨rfl, rfl⟩)))
  go_wp2
  go_ret2
  exact ⟨by first | rfl | exact ⟨_, rfl⟩, below_then (below_drewN hb0 1) hb2⟩
set_option maxRecDepth 100000 in
set_option maxHeartbeats 2000000 in
theorem rwrite_key3 (w : World) (k n pos : Int) (s : ByteArray) (hs : s.size ≤ 140737488351232) (f1 : (k == 1) = false) (f4 : (k == 4) = true) (hin : decide (bs s ∈ LX.keyL) = false) :
    Calls Tryd.prog 26 #[.agg #[.int .i64 k, .string s, .int .i64 n, .int .i64 pos]] w fun e w' => (∃ x, e = .returned (.tuple #[.string x, .bool false])) ∧ Below w.heap.size w w' := by
  have hb0 : Below w.heap.size w (w.alloc (.cells #[.int .i64 k, .string s, .int .i64 n, .int .i64 pos] 32)) := below_alloc _ _
  have HH := Lib.hid hin
  clear hin
  go_enter Tryd.func26, Tryd.ntmps26
  go_wp2
  refine wp_region_held_drew (S := (fun w' => w'.cell? ⟨w.heap.size, 1, none⟩ = some (.string s))) (by kernel_rfl) ?_ (fun hHeld => ?_)
  · go_keep
  refine takeH (i := 0) (v := ?v0) rfl rfl (by kernel_rfl) (by kernel_rfl) (by kernel_rfl) (fun _ _ _ h => h) (Or.inl ⟨by rfl, ?hy0⟩) (by assumption) ?rest0
  case hy0 => (intro W hSw; (try dsimp only at hSw); go_simp; try with_reducible rfl)
  try simp only [Act.put, List.setIfInBounds_toArray, List.set_cons_zero, List.set_cons_succ]
  refine takeH (i := 1) (v := ?v1) rfl rfl (by kernel_rfl) (by kernel_rfl) (by kernel_rfl) (fun _ _ _ h => h) (Or.inl ⟨by rfl, ?hy1⟩) (by assumption) ?rest1
  case hy1 => (intro W hSw; (try dsimp only at hSw); go_simp; try with_reducible rfl)
  try simp only [Act.put, List.setIfInBounds_toArray, List.set_cons_zero, List.set_cons_succ]
  refine takeH (i := 3) (v := ?v3) rfl rfl (by kernel_rfl) (by kernel_rfl) (by kernel_rfl) (fun _ _ _ h => h) (Or.inl ⟨by rfl, ?hy3⟩) (by assumption) ?rest3
  case hy3 => (intro W hSw; (try dsimp only at hSw); go_simp; try with_reducible rfl)
  try simp only [Act.put, List.setIfInBounds_toArray, List.set_cons_zero, List.set_cons_succ]
  refine takeH (i := 4) (v := ?v4) rfl rfl (by kernel_rfl) (by kernel_rfl) (by kernel_rfl) (fun _ _ _ h => h) (Or.inl ⟨by rfl, ?hy4⟩) (by assumption) ?rest4
  case hy4 => (intro W hSw; (try dsimp only at hSw); go_simp; try with_reducible rfl)
  try simp only [Act.put, List.setIfInBounds_toArray, List.set_cons_zero, List.set_cons_succ]
  refine wpAnyH_ready (rs := [2]) (by kernel_rfl) (by simp) ?_
  refine AllReadyH.cons rfl (fun K hK => ?_) AllReadyH.nil
  go_simp
  go_at_call 37; refine (refKeys_c _).mono ?_; rintro e W2 ⟨v2, rfl, hr2, hb2⟩
  refine hK.out _ _ ?_ (fun hHeld => ?_)
  · exact (hb2.cell (World.block_lt_of_cell? _ _ (by assumption))).trans (by assumption)
  clear hK K
  try simp only [Act.put, List.setIfInBounds_toArray, List.set_cons_zero, List.set_cons_succ]
  refine wpAnyH_ready (rs := [5]) (by kernel_rfl) (by simp) ?_
  refine AllReadyH.cons rfl (fun K hK => ?_) AllReadyH.nil
  go_simp
  go_at_call 36; refine (has_s s v2 LX.keyL false HH.out _ hr2).mono ?_; rintro e W3 ⟨rfl, rfl⟩
  refine hK.out _ _ ?_ (fun hHeld => ?_)
  · assumption
  clear hK K
  try simp only [Act.put, List.setIfInBounds_toArray, List.set_cons_zero, List.set_cons_succ]
  refine takeH (i := 6) (v := ?v6) rfl rfl (by kernel_rfl) (by kernel_rfl) (by kernel_rfl) (fun _ _ _ h => h) (Or.inl ⟨by rfl, ?hy6⟩) (by assumption) ?rest6
  case hy6 => (intro W hSw; (try dsimp only at hSw); go_simp; try with_reducible rfl)
  try simp only [Act.put, List.setIfInBounds_toArray, List.set_cons_zero, List.set_cons_succ]
  refine takeH (i := 7) rfl rfl (by kernel_rfl) (by kernel_rfl) (by kernel_rfl) (fun _ _ _ h => h) (Or.inr ⟨by rfl, rfl⟩) (by assumption) ?_
  try simp only [Act.put, List.setIfInBounds_toArray, List.set_cons_zero, List.set_cons_succ]
  refine takeH (i := 8) rfl rfl (by kernel_rfl) (by kernel_rfl) (by kernel_rfl) (fun _ _ _ h => h) (Or.inr ⟨by rfl, rfl⟩) (by assumption) ?_
  try simp only [Act.put, List.setIfInBounds_toArray, List.set_cons_zero, List.set_cons_succ]
  refine takeH (i := 9) rfl rfl (by kernel_rfl) (by kernel_rfl) (by kernel_rfl) (fun _ _ _ h => h) (Or.inr ⟨by rfl, rfl⟩) (by assumption) ?_
  try simp only [Act.put, List.setIfInBounds_toArray, List.set_cons_zero, List.set_cons_succ]
  refine takeH (i := 10) (v := ?v10) rfl rfl (by kernel_rfl) (by kernel_rfl) (by kernel_rfl) (fun _ _ _ h => h) (Or.inl ⟨by rfl, ?hy10⟩) (by assumption) ?rest10
  case hy10 => (intro W hSw; (try dsimp only at hSw); go_simp; try with_reducible rfl)
  try simp only [Act.put, List.setIfInBounds_toArray, List.set_cons_zero, List.set_cons_succ]
  refine takeH (i := 11) (v := ?v11) rfl rfl (by kernel_rfl) (by kernel_rfl) (by kernel_rfl) (fun _ _ _ h => h) (Or.inl ⟨by rfl, ?hy11⟩) (by assumption) ?rest11
  case hy11 => (intro W hSw; (try dsimp only at hSw); go_simp; try with_reducible rfl)
  try simp only [Act.put, List.setIfInBounds_toArray, List.set_cons_zero, List.set_cons_succ]
  refine takeH (i := 12) (v := ?v12) rfl rfl (by kernel_rfl) (by kernel_rfl) (by kernel_rfl) (fun _ _ _ h => h) (Or.inl ⟨by rfl, ?hy12⟩) (by assumption) ?rest12
  case hy12 => (intro W hSw; (try dsimp only at hSw); go_simp; try with_reducible rfl)
  try simp only [Act.put, List.setIfInBounds_toArray, List.set_cons_zero, List.set_cons_succ]
  refine wpAnyH_done (by kernel_rfl) ?_ _
  go_wp2
  go_ret2
  exact ⟨by first | rfl | exact ⟨_, rfl⟩, below_then (below_drewN hb0 1) hb2⟩
set_option maxRecDepth 100000 in
set_option maxHeartbeats 2000000 in
theorem rwrite_sign1 (w : World) (k n pos : Int) (s : ByteArray) (hs : s.size ≤ 140737488351232) (f1 : (k == 1) = false) (f4 : (k == 4) = false) (f5 : (k == 5) = true) (hin : decide (bs s ∈ LX.signL) = true) (g1 : (n == 0) = true) :
    Calls Tryd.prog 26 #[.agg #[.int .i64 k, .string s, .int .i64 n, .int .i64 pos]] w fun e w' => e = .returned (.tuple #[.string s, .bool true]) ∧ Below w.heap.size w w' := by
  have hb0 : Below w.heap.size w (w.alloc (.cells #[.int .i64 k, .string s, .int .i64 n, .int .i64 pos] 32)) := below_alloc _ _
  have HH := Lib.hid hin
  clear hin
  go_enter Tryd.func26, Tryd.ntmps26
  go_wp2
  go_region_held3 (fun w' => w'.cell? ⟨w.heap.size, 1, none⟩ = some (.string s) ∧ w'.cell? ⟨w.heap.size, 2, none⟩ = some (.int .i64 n))
    (first | (go_split_ands; refine ⟨?_, ?_⟩; all_goals (refine (hb2.cell (World.block_lt_of_cell? _ _ (by assumption))).trans (by assumption))) | go_keep)
    ((first
      | (go_at_call 38; refine (refSigns_c _).mono ?_; rintro e W2 ⟨v2, rfl, hr2, hb2⟩)
      | (go_at_call 36; refine (has_s s v2 LX.signL true HH.out _ hr2).mono ?_; rintro e W3 ⟨rfl, rfl⟩)))
  go_wp2
  go_ret2
  exact ⟨by first | rfl | exact ⟨_, rfl⟩, below_then (below_drewN hb0 1) hb2⟩
set_option maxRecDepth 100000 in
set_option maxHeartbeats 2000000 in
theorem rwrite_sign2 (w : World) (k n pos : Int) (s : ByteArray) (hs : s.size ≤ 140737488351232) (f1 : (k == 1) = false) (f4 : (k == 4) = false) (f5 : (k == 5) = true) (hin : decide (bs s ∈ LX.signL) = true) (g1 : (n == 0) = false) :
    Calls Tryd.prog 26 #[.agg #[.int .i64 k, .string s, .int .i64 n, .int .i64 pos]] w fun e w' => (∃ x, e = .returned (.tuple #[.string x, .bool false])) ∧ Below w.heap.size w w' := by
  have hb0 : Below w.heap.size w (w.alloc (.cells #[.int .i64 k, .string s, .int .i64 n, .int .i64 pos] 32)) := below_alloc _ _
  have HH := Lib.hid hin
  clear hin
  go_enter Tryd.func26, Tryd.ntmps26
  go_wp2
  go_region_held3 (fun w' => w'.cell? ⟨w.heap.size, 1, none⟩ = some (.string s) ∧ w'.cell? ⟨w.heap.size, 2, none⟩ = some (.int .i64 n))
    (first | (go_split_ands; refine ⟨?_, ?_⟩; all_goals (refine (hb2.cell (World.block_lt_of_cell? _ _ (by assumption))).trans (by assumption))) | go_keep)
    ((first
      | (go_at_call 38; refine (refSigns_c _).mono ?_; rintro e W2 ⟨v2, rfl, hr2, hb2⟩)
      | (go_at_call 36; refine (has_s s v2 LX.signL true HH.out _ hr2).mono ?_; rintro e W3 ⟨rfl, rfl⟩)))
  go_wp2
  go_ret2
  exact ⟨by first | rfl | exact ⟨_, rfl⟩, below_then (below_drewN hb0 1) hb2⟩
set_option maxRecDepth 100000 in
set_option maxHeartbeats 2000000 in
theorem rwrite_sign3 (w : World) (k n pos : Int) (s : ByteArray) (hs : s.size ≤ 140737488351232) (f1 : (k == 1) = false) (f4 : (k == 4) = false) (f5 : (k == 5) = true) (hin : decide (bs s ∈ LX.signL) = false) :
    Calls Tryd.prog 26 #[.agg #[.int .i64 k, .string s, .int .i64 n, .int .i64 pos]] w fun e w' => (∃ x, e = .returned (.tuple #[.string x, .bool false])) ∧ Below w.heap.size w w' := by
  have hb0 : Below w.heap.size w (w.alloc (.cells #[.int .i64 k, .string s, .int .i64 n, .int .i64 pos] 32)) := below_alloc _ _
  have HH := Lib.hid hin
  clear hin
  go_enter Tryd.func26, Tryd.ntmps26
  go_wp2
  refine wp_region_held_drew (S := (fun w' => w'.cell? ⟨w.heap.size, 1, none⟩ = some (.string s))) (by kernel_rfl) ?_ (fun hHeld => ?_)
  · go_keep
  refine takeH (i := 0) (v := ?v0) rfl rfl (by kernel_rfl) (by kernel_rfl) (by kernel_rfl) (fun _ _ _ h => h) (Or.inl ⟨by rfl, ?hy0⟩) (by assumption) ?rest0
  case hy0 => (intro W hSw; (try dsimp only at hSw); go_simp; try with_reducible rfl)
  try simp only [Act.put, List.setIfInBounds_toArray, List.set_cons_zero, List.set_cons_succ]
  refine takeH (i := 1) (v := ?v1) rfl rfl (by kernel_rfl) (by kernel_rfl) (by kernel_rfl) (fun _ _ _ h => h) (Or.inl ⟨by rfl, ?hy1⟩) (by assumption) ?rest1
  case hy1 => (intro W hSw; (try dsimp only at hSw); go_simp; try with_reducible rfl)
  try simp only [Act.put, List.setIfInBounds_toArray, List.set_cons_zero, List.set_cons_succ]
  refine takeH (i := 3) (v := ?v3) rfl rfl (by kernel_rfl) (by kernel_rfl) (by kernel_rfl) (fun _ _ _ h => h) (Or.inl ⟨by rfl, ?hy3⟩) (by assumption) ?rest3
  case hy3 => (intro W hSw; (try dsimp only at hSw); go_simp; try with_reducible rfl)
  try simp only [Act.put, List.setIfInBounds_toArray, List.set_cons_zero, List.set_cons_succ]
  refine takeH (i := 4) (v := ?v4) rfl rfl (by kernel_rfl) (by kernel_rfl) (by kernel_rfl) (fun _ _ _ h => h) (Or.inl ⟨by rfl, ?hy4⟩) (by assumption) ?rest4
  case hy4 => (intro W hSw; (try dsimp only at hSw); go_simp; try with_reducible rfl)
  try simp only [Act.put, List.setIfInBounds_toArray, List.set_cons_zero, List.set_cons_succ]
  refine wpAnyH_ready (rs := [2]) (by kernel_rfl) (by simp) ?_
  refine AllReadyH.cons rfl (fun K hK => ?_) AllReadyH.nil
  go_simp
  go_at_call 38; refine (refSigns_c _).mono ?_; rintro e W2 ⟨v2, rfl, hr2, hb2⟩
  refine hK.out _ _ ?_ (fun hHeld => ?_)
  · exact (hb2.cell (World.block_lt_of_cell? _ _ (by assumption))).trans (by assumption)
  clear hK K
  try simp only [Act.put, List.setIfInBounds_toArray, List.set_cons_zero, List.set_cons_succ]
  refine wpAnyH_ready (rs := [5]) (by kernel_rfl) (by simp) ?_
  refine AllReadyH.cons rfl (fun K hK => ?_) AllReadyH.nil
  go_simp
  go_at_call 36; refine (has_s s v2 LX.signL false HH.out _ hr2).mono ?_; rintro e W3 ⟨rfl, rfl⟩
  refine hK.out _ _ ?_ (fun hHeld => ?_)
  · assumption
  clear hK K
  try simp only [Act.put, List.setIfInBounds_toArray, List.set_cons_zero, List.set_cons_succ]
  refine takeH (i := 6) (v := ?v6) rfl rfl (by kernel_rfl) (by kernel_rfl) (by kernel_rfl) (fun _ _ _ h => h) (Or.inl ⟨by rfl, ?hy6⟩) (by assumption) ?rest6
  case hy6 => (intro W hSw; (try dsimp only at hSw); go_simp; try with_reducible rfl)
  try simp only [Act.put, List.setIfInBounds_toArray, List.set_cons_zero, List.set_cons_succ]
  refine takeH (i := 7) rfl rfl (by kernel_rfl) (by kernel_rfl) (by kernel_rfl) (fun _ _ _ h => h) (Or.inr ⟨by rfl, rfl⟩) (by assumption) ?_
  try simp only [Act.put, List.setIfInBounds_toArray, List.set_cons_zero, List.set_cons_succ]
  refine takeH (i := 8) rfl rfl (by kernel_rfl) (by kernel_rfl) (by kernel_rfl) (fun _ _ _ h => h) (Or.inr ⟨by rfl, rfl⟩) (by assumption) ?_
  try simp only [Act.put, List.setIfInBounds_toArray, List.set_cons_zero, List.set_cons_succ]
  refine takeH (i := 9) rfl rfl (by kernel_rfl) (by kernel_rfl) (by kernel_rfl) (fun _ _ _ h => h) (Or.inr ⟨by rfl, rfl⟩) (by assumption) ?_
  try simp only [Act.put, List.setIfInBounds_toArray, List.set_cons_zero, List.set_cons_succ]
  refine takeH (i := 10) (v := ?v10) rfl rfl (by kernel_rfl) (by kernel_rfl) (by kernel_rfl) (fun _ _ _ h => h) (Or.inl ⟨by rfl, ?hy10⟩) (by assumption) ?rest10
  case hy10 => (intro W hSw; (try dsimp only at hSw); go_simp; try with_reducible rfl)
  try simp only [Act.put, List.setIfInBounds_toArray, List.set_cons_zero, List.set_cons_succ]
  refine takeH (i := 11) (v := ?v11) rfl rfl (by kernel_rfl) (by kernel_rfl) (by kernel_rfl) (fun _ _ _ h => h) (Or.inl ⟨by rfl, ?hy11⟩) (by assumption) ?rest11
  case hy11 => (intro W hSw; (try dsimp only at hSw); go_simp; try with_reducible rfl)
  try simp only [Act.put, List.setIfInBounds_toArray, List.set_cons_zero, List.set_cons_succ]
  refine takeH (i := 12) (v := ?v12) rfl rfl (by kernel_rfl) (by kernel_rfl) (by kernel_rfl) (fun _ _ _ h => h) (Or.inl ⟨by rfl, ?hy12⟩) (by assumption) ?rest12
  case hy12 => (intro W hSw; (try dsimp only at hSw); go_simp; try with_reducible rfl)
  try simp only [Act.put, List.setIfInBounds_toArray, List.set_cons_zero, List.set_cons_succ]
  refine wpAnyH_done (by kernel_rfl) ?_ _
  go_wp2
  go_ret2
  exact ⟨by first | rfl | exact ⟨_, rfl⟩, below_then (below_drewN hb0 1) hb2⟩
set_option maxRecDepth 100000 in
set_option maxHeartbeats 2000000 in
theorem rwrite_other (w : World) (k n pos : Int) (s : ByteArray) (hs : s.size ≤ 140737488351232) (f1 : (k == 1) = false) (f4 : (k == 4) = false) (f5 : (k == 5) = false) (f2 : (k == 2) = false) (f3 : (k == 3) = false) :
    Calls Tryd.prog 26 #[.agg #[.int .i64 k, .string s, .int .i64 n, .int .i64 pos]] w fun e w' => (∃ x, e = .returned (.tuple #[.string x, .bool false])) ∧ Below w.heap.size w w' := by
  have hb0 : Below w.heap.size w (w.alloc (.cells #[.int .i64 k, .string s, .int .i64 n, .int .i64 pos] 32)) := below_alloc _ _
  go_enter Tryd.func26, Tryd.ntmps26
  go_wp2
  go_ret2
  exact ⟨⟨_, rfl⟩, hb0⟩
theorem rwrite_c (w : World) (k n pos : Int) (s : ByteArray) (hs : s.size ≤ 140737488351232) (h0 : -9223372036854775808 ≤ n) (h1 : n ≤ 9223372036854775807) :
    Calls Tryd.prog 26 #[.agg #[.int .i64 k, .string s, .int .i64 n, .int .i64 pos]] w fun e w' => WriteE ⟨k, bs s, n, pos⟩ e ∧ Below w.heap.size w w' := by
  have es := bs_str s
  have yes : ∀ {P : Prop} {f : FuncId} {args : Array Value} {x : LX.Bs} {y : ByteArray}, LX.wrt ⟨k, bs s, n, pos⟩ = some x → y = ⟨x.toArray⟩ → (Calls Tryd.prog f args w fun e w' => e = .returned (.tuple #[.string y, .bool true]) ∧ Below w.heap.size w w') → Calls Tryd.prog f args w fun e w' => WriteE ⟨k, bs s, n, pos⟩ e ∧ Below w.heap.size w w' :=
    fun hx hy hc => hc.mono fun e w' ⟨h, hb⟩ => ⟨by rw [h]; exact .yes hx hy, hb⟩
  have no : ∀ {f : FuncId} {args : Array Value}, LX.wrt ⟨k, bs s, n, pos⟩ = none → (Calls Tryd.prog f args w fun e w' => (∃ x, e = .returned (.tuple #[.string x, .bool false])) ∧ Below w.heap.size w w') → Calls Tryd.prog f args w fun e w' => WriteE ⟨k, bs s, n, pos⟩ e ∧ Below w.heap.size w w' :=
    fun hx hc => hc.mono fun e w' ⟨⟨x, h⟩, hb⟩ => ⟨by rw [h]; exact .no hx, hb⟩
  by_cases k1 : k = 1
  · have hw : LX.wrt ⟨k, bs s, n, pos⟩ = (if LX.isNameB (bs s) = true ∧ n = 0 then some (bs s) else none) := by unfold LX.wrt; rw [if_pos k1]
    cases hnm : LX.isNameB (bs s) with
    | false => exact no (by rw [hw, hnm]; simp) (rwrite_name3 w k n pos s hs (kT k1) hnm)
    | true =>
      by_cases h2 : n = 0
      · exact yes (P := True) (by rw [hw, if_pos ⟨hnm, h2⟩]) es (rwrite_name1 w k n pos s hs (kT k1) hnm (kT h2))
      · exact no (by rw [hw, if_neg (fun h => h2 h.2)]) (rwrite_name2 w k n pos s hs (kT k1) hnm (kF h2))
  by_cases k4 : k = 4
  · have hw : LX.wrt ⟨k, bs s, n, pos⟩ = (if bs s ∈ LX.keyL ∧ n = 0 then some (bs s) else none) := by unfold LX.wrt; rw [if_neg k1, if_pos k4]
    by_cases hin : bs s ∈ LX.keyL
    · by_cases h2 : n = 0
      · exact yes (P := True) (by rw [hw, if_pos ⟨hin, h2⟩]) es (rwrite_key1 w k n pos s hs (kF k1) (kT k4) (by simpa using hin) (kT h2))
      · exact no (by rw [hw, if_neg (fun h => h2 h.2)]) (rwrite_key2 w k n pos s hs (kF k1) (kT k4) (by simpa using hin) (kF h2))
    · exact no (by rw [hw, if_neg (fun h => hin h.1)]) (rwrite_key3 w k n pos s hs (kF k1) (kT k4) (by simpa using hin))
  by_cases k5 : k = 5
  · have hw : LX.wrt ⟨k, bs s, n, pos⟩ = (if bs s ∈ LX.signL ∧ n = 0 then some (bs s) else none) := by unfold LX.wrt; rw [if_neg k1, if_neg k4, if_pos k5]
    by_cases hin : bs s ∈ LX.signL
    · by_cases h2 : n = 0
      · exact yes (P := True) (by rw [hw, if_pos ⟨hin, h2⟩]) es (rwrite_sign1 w k n pos s hs (kF k1) (kF k4) (kT k5) (by simpa using hin) (kT h2))
      · exact no (by rw [hw, if_neg (fun h => h2 h.2)]) (rwrite_sign2 w k n pos s hs (kF k1) (kF k4) (kT k5) (by simpa using hin) (kF h2))
    · exact no (by rw [hw, if_neg (fun h => hin h.1)]) (rwrite_sign3 w k n pos s hs (kF k1) (kF k4) (kT k5) (by simpa using hin))
  by_cases k2 : k = 2
  · have hw : LX.wrt ⟨k, bs s, n, pos⟩ = (if -2147483648 ≤ n ∧ n ≤ 2147483647 ∧ bs s = [] then some (LX.numW n) else none) := by unfold LX.wrt; rw [if_neg k1, if_neg k4, if_neg k5, if_pos k2]
    by_cases hr : n < -2147483648 ∨ 2147483647 < n
    · exact no (by rw [hw, if_neg (by omega)]) (rwrite_num3 w k n pos s hs (kF k1) (kF k4) (kF k5) (kT k2) h0 h1 [] (LX.numberR_bad hr))
    · have hn : LX.numberR n = (LX.numW n, 0) := by unfold LX.numberR; rw [if_neg hr]
      by_cases he : bs s = []
      · exact yes (P := True) (by rw [hw, if_pos ⟨by omega, by omega, he⟩]) rfl (rwrite_num1 w k n pos s hs (kF k1) (kF k4) (kF k5) (kT k2) h0 h1 _ hn (empty_yes he))
      · exact no (by rw [hw, if_neg (fun h => he h.2.2)]) (rwrite_num2 w k n pos s hs (kF k1) (kF k4) (kF k5) (kT k2) h0 h1 _ hn (empty_no he))
  by_cases k3 : k = 3
  · have hw : LX.wrt ⟨k, bs s, n, pos⟩ = (if (bs s).all LX.okq = true ∧ (bs s).length ≤ 100 ∧ n = 0 then some (LX.quote (bs s)) else none) := by unfold LX.wrt; rw [if_neg k1, if_neg k4, if_neg k5, if_neg k2, if_pos k3]
    by_cases ha : (bs s).all LX.okq = true
    · by_cases hl : 100 < (bs s).length
      · exact no (by rw [hw, if_neg (by omega)]) (rwrite_str4 w k n pos s hs (kF k1) (kF k4) (kF k5) (kF k2) (kT k3) [] (LX.quoteR_long ha hl))
      · by_cases h2 : n = 0
        · exact yes (P := True) (by rw [hw, if_pos ⟨ha, by omega, h2⟩]) rfl (rwrite_str1 w k n pos s hs (kF k1) (kF k4) (kF k5) (kF k2) (kT k3) _ (LX.quoteR_good ha hl) (kT h2))
        · exact no (by rw [hw, if_neg (fun h => h2 h.2.2)]) (rwrite_str2 w k n pos s hs (kF k1) (kF k4) (kF k5) (kF k2) (kT k3) _ (LX.quoteR_good ha hl) (kF h2))
    · have hb : LX.quoteR (bs s) = ([], 3) := by unfold LX.quoteR; rw [if_pos (by simpa using ha)]
      exact no (by rw [hw, if_neg (fun h => ha h.1)]) (rwrite_str3 w k n pos s hs (kF k1) (kF k4) (kF k5) (kF k2) (kT k3) [] hb)
  exact no (by unfold LX.wrt; rw [if_neg k1, if_neg k4, if_neg k5, if_neg k2, if_neg k3]) (rwrite_other w k n pos s hs (kF k1) (kF k4) (kF k5) (kF k2) (kF k3))
end Go.Proofs.YtpcepfoebkmbgaaDoor
