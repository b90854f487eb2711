/- The operators of package word, one by one: what a call of result returns, before it is normed; the table of functions is new memory. -/
import Derived.Test.YtmhifelkihcidaaWNum
import Derived.Laws.EntriesVeiled
namespace Go.Proofs.Ytmhifelkihcidaa
open Go.RowKit WM
theorem setRow_alloc (w : World) (old new : Array Value) (t : TypeId) : (w.alloc (.cells old t)).setRow w.heap.size new = w.alloc (.cells new t) := by
  unfold World.setRow World.alloc
  congr 1
  apply Array.ext
  · simp
  · intro k h1 h2
    simp only [Array.getElem_modify]
    split
    · rename_i hk; subst hk; simp
    · rename_i hk
      simp only [Array.size_modify, Array.size_push] at h1
      simp only [Array.getElem_push]
      split
      · rfl
      · omega
theorem heap_alloc_at (w : World) (o : Obj) : (w.alloc o).heap[w.heap.size]? = some o := by
  show (w.heap.push o)[w.heap.size]? = _
  simp
def tblF : Array Value := #[.nilFunc, .func (Fn.func 69) #[] #[], .func (Fn.func 70) #[] #[], .func (Fn.func 71) #[] #[], .func (Fn.func 72) #[] #[], .func (Fn.func 73) #[] #[], .func (Fn.func 74) #[] #[], .func (Fn.func 75) #[] #[], .func (Fn.func 76) #[] #[], .func (Fn.func 77) #[] #[], .func (Fn.func 78) #[] #[], .func (Fn.func 79) #[] #[], .func (Fn.func 80) #[] #[], .func (Fn.func 82) #[] #[], .func (Fn.func 83) #[] #[], .func (Fn.func 84) #[] #[], .func (Fn.func 85) #[] #[], .func (Fn.func 86) #[] #[], .func (Fn.func 87) #[] #[], .func (Fn.func 88) #[] #[]]
theorem info_tbl : (Try.prog.info? 78).map (·.size) = some 20 := by kernel_rfl
set_option maxHeartbeats 400000 in
theorem operator_c (k n : Nat) (hk : k < 20) (ht : tblF[k]? = some (.func (Fn.func n) #[] #[])) (w : World) :
    Calls Try.prog 67 #[.int .i64 k] w fun e w' => e = .returned (.func (Fn.func n) #[] #[]) ∧ Below w.heap.size w w' := by
  go_enter Try.func67, Try.ntmps67
  go_wp2_with (refine wpList_store_row rfl 78 (.tmp 3) (.tmp 4) rfl w.heap.size tblF rfl rfl 78 _ (heap_alloc_at _ _) info_tbl rfl (by kernel_rfl) ?_; rw [setRow_alloc])
  go_ret
  exact ⟨rfl, (Below.refl _ _).alloc (Nat.le_refl _) _⟩
set_option maxHeartbeats 400000 in
theorem truth_c (p : Bool) (w : World) :
    Calls Try.prog 81 #[.bool p] w fun e w' => e = .returned (.int .i64 (tr p)) ∧ w = w' := by
  cases p
  all_goals
    go_enter Try.func81, Try.ntmps81
    go_wp2
    go_ret
    exact ⟨rfl, rfl⟩
theorem below_then {w w1 w2 : World} (h : Below w.heap.size w w1) (k : Below w1.heap.size w1 w2) : Below w.heap.size w w2 := h.trans (k.mono h.size)
set_option maxHeartbeats 400000 in
theorem result1 (a b n : Int) (hb : IsBits n) (w : World) :
    Calls Try.prog 50 #[.int .i64 1, .int .i64 a, .int .i64 b, .int .i64 n] w fun e w' => e = .returned (.int .i64 (opw 1 (nm n a) (nm n b) n)) ∧ Below w.heap.size w w' := by
  have b1 := nm_bd hb a
  have b2 := nm_bd hb b
  go_enter Try.func50, Try.ntmps50
  go_wp2_with (first | (go_at_call 67; refine (operator_c 1 69 (by omega) rfl _).mono ?_; rintro e w1 ⟨rfl, hb1⟩) | (go_at_call 45; refine (norm_c _ _ hb _).mono ?_; rintro e w' ⟨rfl, rfl⟩) | (go_at_call 47; refine (unsigned_c _ _ hb _).mono ?_; rintro e w' ⟨rfl, rfl⟩) | (go_at_call 81; refine (truth_c _ _).mono ?_; rintro e w' ⟨rfl, rfl⟩) | go_in)
  go_ret
  exact ⟨ret_int (mul_fit _ _ b1 b2), hb1⟩
set_option maxHeartbeats 400000 in
theorem result2 (a b n : Int) (hb : IsBits n) (hz : nm n b ≠ 0) (w : World) :
    Calls Try.prog 50 #[.int .i64 2, .int .i64 a, .int .i64 b, .int .i64 n] w fun e w' => e = .returned (.int .i64 (opw 2 (nm n a) (nm n b) n)) ∧ Below w.heap.size w w' := by
  have b1 := nm_bd hb a
  have b2 := nm_bd hb b
  go_enter Try.func50, Try.ntmps50
  go_wp2_with (first | (go_at_call 67; refine (operator_c 2 70 (by omega) rfl _).mono ?_; rintro e w1 ⟨rfl, hb1⟩) | (go_at_call 45; refine (norm_c _ _ hb _).mono ?_; rintro e w' ⟨rfl, rfl⟩) | (go_at_call 47; refine (unsigned_c _ _ hb _).mono ?_; rintro e w' ⟨rfl, rfl⟩) | (go_at_call 81; refine (truth_c _ _).mono ?_; rintro e w' ⟨rfl, rfl⟩) | go_in)
  go_ret
  exact ⟨ret_int (div_fit _ _ b1), hb1⟩
set_option maxHeartbeats 400000 in
theorem result3 (a b n : Int) (hb : IsBits n) (hz : nm n b ≠ 0) (w : World) :
    Calls Try.prog 50 #[.int .i64 3, .int .i64 a, .int .i64 b, .int .i64 n] w fun e w' => e = .returned (.int .i64 (opw 3 (nm n a) (nm n b) n)) ∧ Below w.heap.size w w' := by
  have b1 := nm_bd hb a
  have b2 := nm_bd hb b
  go_enter Try.func50, Try.ntmps50
  go_wp2_with (first | (go_at_call 67; refine (operator_c 3 71 (by omega) rfl _).mono ?_; rintro e w1 ⟨rfl, hb1⟩) | (go_at_call 45; refine (norm_c _ _ hb _).mono ?_; rintro e w' ⟨rfl, rfl⟩) | (go_at_call 47; refine (unsigned_c _ _ hb _).mono ?_; rintro e w' ⟨rfl, rfl⟩) | (go_at_call 81; refine (truth_c _ _).mono ?_; rintro e w' ⟨rfl, rfl⟩) | go_in)
  go_ret
  exact ⟨ret_int (rfl), hb1⟩
set_option maxHeartbeats 400000 in
theorem result4 (a b n : Int) (hb : IsBits n) (w : World) :
    Calls Try.prog 50 #[.int .i64 4, .int .i64 a, .int .i64 b, .int .i64 n] w fun e w' => e = .returned (.int .i64 (opw 4 (nm n a) (nm n b) n)) ∧ Below w.heap.size w w' := by
  have b1 := nm_bd hb a
  have b2 := nm_bd hb b
  go_enter Try.func50, Try.ntmps50
  go_wp2_with (first | (go_at_call 67; refine (operator_c 4 72 (by omega) rfl _).mono ?_; rintro e w1 ⟨rfl, hb1⟩) | (go_at_call 45; refine (norm_c _ _ hb _).mono ?_; rintro e w' ⟨rfl, rfl⟩) | (go_at_call 47; refine (unsigned_c _ _ hb _).mono ?_; rintro e w' ⟨rfl, rfl⟩) | (go_at_call 81; refine (truth_c _ _).mono ?_; rintro e w' ⟨rfl, rfl⟩) | go_in)
  go_ret
  exact ⟨ret_int (rfl), hb1⟩
set_option maxHeartbeats 400000 in
theorem result5 (a b n : Int) (hb : IsBits n) (w : World) :
    Calls Try.prog 50 #[.int .i64 5, .int .i64 a, .int .i64 b, .int .i64 n] w fun e w' => e = .returned (.int .i64 (opw 5 (nm n a) (nm n b) n)) ∧ Below w.heap.size w w' := by
  have b1 := nm_bd hb a
  have b2 := nm_bd hb b
  go_enter Try.func50, Try.ntmps50
  go_wp2_with (first | (go_at_call 67; refine (operator_c 5 73 (by omega) rfl _).mono ?_; rintro e w1 ⟨rfl, hb1⟩) | (go_at_call 45; refine (norm_c _ _ hb _).mono ?_; rintro e w' ⟨rfl, rfl⟩) | (go_at_call 47; refine (unsigned_c _ _ hb _).mono ?_; rintro e w' ⟨rfl, rfl⟩) | (go_at_call 81; refine (truth_c _ _).mono ?_; rintro e w' ⟨rfl, rfl⟩) | go_in)
  go_ret
  exact ⟨ret_int (rfl), hb1⟩
set_option maxHeartbeats 400000 in
theorem result6 (a b n : Int) (hb : IsBits n) (w : World) :
    Calls Try.prog 50 #[.int .i64 6, .int .i64 a, .int .i64 b, .int .i64 n] w fun e w' => e = .returned (.int .i64 (opw 6 (nm n a) (nm n b) n)) ∧ Below w.heap.size w w' := by
  have b1 := nm_bd hb a
  have b2 := nm_bd hb b
  have b3 := un_bd hb (nm n a)
  have b4 : n ≤ 32 := by rcases hb with rfl | rfl | rfl <;> omega
  by_cases c1 : nm n b < 0
  · have hv : opw 6 (nm n a) (nm n b) n = 0 := by simp [opw, c1]
    rw [hv]; clear hv
    go_enter Try.func50, Try.ntmps50
    go_wp2_with (first | (go_at_call 67; refine (operator_c 6 74 (by omega) rfl _).mono ?_; rintro e w1 ⟨rfl, hb1⟩) | (go_at_call 45; refine (norm_c _ _ hb _).mono ?_; rintro e w' ⟨rfl, rfl⟩) | (go_at_call 47; refine (unsigned_c _ _ hb _).mono ?_; rintro e w' ⟨rfl, rfl⟩) | (go_at_call 81; refine (truth_c _ _).mono ?_; rintro e w' ⟨rfl, rfl⟩) | go_in)
    go_ret
    exact ⟨rfl, hb1⟩
  · by_cases c2 : n ≤ nm n b
    · have hv : opw 6 (nm n a) (nm n b) n = 0 := by simp [opw, c2]
      rw [hv]; clear hv
      go_enter Try.func50, Try.ntmps50
      go_wp2_with (first | (go_at_call 67; refine (operator_c 6 74 (by omega) rfl _).mono ?_; rintro e w1 ⟨rfl, hb1⟩) | (go_at_call 45; refine (norm_c _ _ hb _).mono ?_; rintro e w' ⟨rfl, rfl⟩) | (go_at_call 47; refine (unsigned_c _ _ hb _).mono ?_; rintro e w' ⟨rfl, rfl⟩) | (go_at_call 81; refine (truth_c _ _).mono ?_; rintro e w' ⟨rfl, rfl⟩) | go_in)
      go_ret
      exact ⟨rfl, hb1⟩
    · have hv : opw 6 (nm n a) (nm n b) n = nm n a * P2 (nm n b) := by simp [opw, c1, c2]
      rw [hv]; clear hv
      go_enter Try.func50, Try.ntmps50
      go_wp2_with (first | (go_at_call 67; refine (operator_c 6 74 (by omega) rfl _).mono ?_; rintro e w1 ⟨rfl, hb1⟩) | (go_at_call 45; refine (norm_c _ _ hb _).mono ?_; rintro e w' ⟨rfl, rfl⟩) | (go_at_call 47; refine (unsigned_c _ _ hb _).mono ?_; rintro e w' ⟨rfl, rfl⟩) | (go_at_call 81; refine (truth_c _ _).mono ?_; rintro e w' ⟨rfl, rfl⟩) | go_in)
      go_ret
      exact ⟨ret_int (by exact shl_fit _ _ b1 (by omega)), hb1⟩
set_option maxHeartbeats 400000 in
theorem result7 (a b n : Int) (hb : IsBits n) (w : World) :
    Calls Try.prog 50 #[.int .i64 7, .int .i64 a, .int .i64 b, .int .i64 n] w fun e w' => e = .returned (.int .i64 (opw 7 (nm n a) (nm n b) n)) ∧ Below w.heap.size w w' := by
  have b1 := nm_bd hb a
  have b2 := nm_bd hb b
  have b3 := un_bd hb (nm n a)
  have b4 : n ≤ 32 := by rcases hb with rfl | rfl | rfl <;> omega
  by_cases c1 : nm n b < 0
  · have hv : opw 7 (nm n a) (nm n b) n = 0 := by simp [opw, c1]
    rw [hv]; clear hv
    go_enter Try.func50, Try.ntmps50
    go_wp2_with (first | (go_at_call 67; refine (operator_c 7 75 (by omega) rfl _).mono ?_; rintro e w1 ⟨rfl, hb1⟩) | (go_at_call 45; refine (norm_c _ _ hb _).mono ?_; rintro e w' ⟨rfl, rfl⟩) | (go_at_call 47; refine (unsigned_c _ _ hb _).mono ?_; rintro e w' ⟨rfl, rfl⟩) | (go_at_call 81; refine (truth_c _ _).mono ?_; rintro e w' ⟨rfl, rfl⟩) | go_in)
    go_ret
    exact ⟨rfl, hb1⟩
  · by_cases c2 : n ≤ nm n b
    · have hv : opw 7 (nm n a) (nm n b) n = 0 := by simp [opw, c2]
      rw [hv]; clear hv
      go_enter Try.func50, Try.ntmps50
      go_wp2_with (first | (go_at_call 67; refine (operator_c 7 75 (by omega) rfl _).mono ?_; rintro e w1 ⟨rfl, hb1⟩) | (go_at_call 45; refine (norm_c _ _ hb _).mono ?_; rintro e w' ⟨rfl, rfl⟩) | (go_at_call 47; refine (unsigned_c _ _ hb _).mono ?_; rintro e w' ⟨rfl, rfl⟩) | (go_at_call 81; refine (truth_c _ _).mono ?_; rintro e w' ⟨rfl, rfl⟩) | go_in)
      go_ret
      exact ⟨rfl, hb1⟩
    · have hv : opw 7 (nm n a) (nm n b) n = un n (nm n a) / P2 (nm n b) := by simp [opw, c1, c2]
      rw [hv]; clear hv
      go_enter Try.func50, Try.ntmps50
      go_wp2_with (first | (go_at_call 67; refine (operator_c 7 75 (by omega) rfl _).mono ?_; rintro e w1 ⟨rfl, hb1⟩) | (go_at_call 45; refine (norm_c _ _ hb _).mono ?_; rintro e w' ⟨rfl, rfl⟩) | (go_at_call 47; refine (unsigned_c _ _ hb _).mono ?_; rintro e w' ⟨rfl, rfl⟩) | (go_at_call 81; refine (truth_c _ _).mono ?_; rintro e w' ⟨rfl, rfl⟩) | go_in)
      go_ret
      exact ⟨ret_int (by rw [p2_pow]), hb1⟩
set_option maxHeartbeats 400000 in
theorem result8 (a b n : Int) (hb : IsBits n) (w : World) :
    Calls Try.prog 50 #[.int .i64 8, .int .i64 a, .int .i64 b, .int .i64 n] w fun e w' => e = .returned (.int .i64 (opw 8 (nm n a) (nm n b) n)) ∧ Below w.heap.size w w' := by
  have b1 := nm_bd hb a
  have b2 := nm_bd hb b
  go_enter Try.func50, Try.ntmps50
  go_wp2_with (first | (go_at_call 67; refine (operator_c 8 76 (by omega) rfl _).mono ?_; rintro e w1 ⟨rfl, hb1⟩) | (go_at_call 45; refine (norm_c _ _ hb _).mono ?_; rintro e w' ⟨rfl, rfl⟩) | (go_at_call 47; refine (unsigned_c _ _ hb _).mono ?_; rintro e w' ⟨rfl, rfl⟩) | (go_at_call 81; refine (truth_c _ _).mono ?_; rintro e w' ⟨rfl, rfl⟩) | go_in)
  go_ret
  exact ⟨ret_int (rfl), hb1⟩
set_option maxHeartbeats 400000 in
theorem result9 (a b n : Int) (hb : IsBits n) (w : World) :
    Calls Try.prog 50 #[.int .i64 9, .int .i64 a, .int .i64 b, .int .i64 n] w fun e w' => e = .returned (.int .i64 (opw 9 (nm n a) (nm n b) n)) ∧ Below w.heap.size w w' := by
  have b1 := nm_bd hb a
  have b2 := nm_bd hb b
  go_enter Try.func50, Try.ntmps50
  go_wp2_with (first | (go_at_call 67; refine (operator_c 9 77 (by omega) rfl _).mono ?_; rintro e w1 ⟨rfl, hb1⟩) | (go_at_call 45; refine (norm_c _ _ hb _).mono ?_; rintro e w' ⟨rfl, rfl⟩) | (go_at_call 47; refine (unsigned_c _ _ hb _).mono ?_; rintro e w' ⟨rfl, rfl⟩) | (go_at_call 81; refine (truth_c _ _).mono ?_; rintro e w' ⟨rfl, rfl⟩) | go_in)
  go_ret
  exact ⟨ret_int (rfl), hb1⟩
set_option maxHeartbeats 400000 in
theorem result10 (a b n : Int) (hb : IsBits n) (w : World) :
    Calls Try.prog 50 #[.int .i64 10, .int .i64 a, .int .i64 b, .int .i64 n] w fun e w' => e = .returned (.int .i64 (opw 10 (nm n a) (nm n b) n)) ∧ Below w.heap.size w w' := by
  have b1 := nm_bd hb a
  have b2 := nm_bd hb b
  go_enter Try.func50, Try.ntmps50
  go_wp2_with (first | (go_at_call 67; refine (operator_c 10 78 (by omega) rfl _).mono ?_; rintro e w1 ⟨rfl, hb1⟩) | (go_at_call 45; refine (norm_c _ _ hb _).mono ?_; rintro e w' ⟨rfl, rfl⟩) | (go_at_call 47; refine (unsigned_c _ _ hb _).mono ?_; rintro e w' ⟨rfl, rfl⟩) | (go_at_call 81; refine (truth_c _ _).mono ?_; rintro e w' ⟨rfl, rfl⟩) | go_in)
  go_ret
  exact ⟨ret_int (rfl), hb1⟩
set_option maxHeartbeats 400000 in
theorem result11 (a b n : Int) (hb : IsBits n) (w : World) :
    Calls Try.prog 50 #[.int .i64 11, .int .i64 a, .int .i64 b, .int .i64 n] w fun e w' => e = .returned (.int .i64 (opw 11 (nm n a) (nm n b) n)) ∧ Below w.heap.size w w' := by
  have b1 := nm_bd hb a
  have b2 := nm_bd hb b
  go_enter Try.func50, Try.ntmps50
  go_wp2_with (first | (go_at_call 67; refine (operator_c 11 79 (by omega) rfl _).mono ?_; rintro e w1 ⟨rfl, hb1⟩) | (go_at_call 45; refine (norm_c _ _ hb _).mono ?_; rintro e w' ⟨rfl, rfl⟩) | (go_at_call 47; refine (unsigned_c _ _ hb _).mono ?_; rintro e w' ⟨rfl, rfl⟩) | (go_at_call 81; refine (truth_c _ _).mono ?_; rintro e w' ⟨rfl, rfl⟩) | go_in)
  go_ret
  exact ⟨ret_int (rfl), hb1⟩
set_option maxHeartbeats 400000 in
theorem result12 (a b n : Int) (hb : IsBits n) (w : World) :
    Calls Try.prog 50 #[.int .i64 12, .int .i64 a, .int .i64 b, .int .i64 n] w fun e w' => e = .returned (.int .i64 (opw 12 (nm n a) (nm n b) n)) ∧ Below w.heap.size w w' := by
  have b1 := nm_bd hb a
  have b2 := nm_bd hb b
  go_enter Try.func50, Try.ntmps50
  go_wp2_with (first | (go_at_call 67; refine (operator_c 12 80 (by omega) rfl _).mono ?_; rintro e w1 ⟨rfl, hb1⟩) | (go_at_call 45; refine (norm_c _ _ hb _).mono ?_; rintro e w' ⟨rfl, rfl⟩) | (go_at_call 47; refine (unsigned_c _ _ hb _).mono ?_; rintro e w' ⟨rfl, rfl⟩) | (go_at_call 81; refine (truth_c _ _).mono ?_; rintro e w' ⟨rfl, rfl⟩) | go_in)
  go_ret
  exact ⟨ret_int (rfl), hb1⟩
set_option maxHeartbeats 400000 in
theorem result13 (a b n : Int) (hb : IsBits n) (w : World) :
    Calls Try.prog 50 #[.int .i64 13, .int .i64 a, .int .i64 b, .int .i64 n] w fun e w' => e = .returned (.int .i64 (opw 13 (nm n a) (nm n b) n)) ∧ Below w.heap.size w w' := by
  have b1 := nm_bd hb a
  have b2 := nm_bd hb b
  go_enter Try.func50, Try.ntmps50
  go_wp2_with (first | (go_at_call 67; refine (operator_c 13 82 (by omega) rfl _).mono ?_; rintro e w1 ⟨rfl, hb1⟩) | (go_at_call 45; refine (norm_c _ _ hb _).mono ?_; rintro e w' ⟨rfl, rfl⟩) | (go_at_call 47; refine (unsigned_c _ _ hb _).mono ?_; rintro e w' ⟨rfl, rfl⟩) | (go_at_call 81; refine (truth_c _ _).mono ?_; rintro e w' ⟨rfl, rfl⟩) | go_in)
  go_ret
  exact ⟨ret_int (rfl), hb1⟩
set_option maxHeartbeats 400000 in
theorem result14 (a b n : Int) (hb : IsBits n) (w : World) :
    Calls Try.prog 50 #[.int .i64 14, .int .i64 a, .int .i64 b, .int .i64 n] w fun e w' => e = .returned (.int .i64 (opw 14 (nm n a) (nm n b) n)) ∧ Below w.heap.size w w' := by
  have b1 := nm_bd hb a
  have b2 := nm_bd hb b
  go_enter Try.func50, Try.ntmps50
  go_wp2_with (first | (go_at_call 67; refine (operator_c 14 83 (by omega) rfl _).mono ?_; rintro e w1 ⟨rfl, hb1⟩) | (go_at_call 45; refine (norm_c _ _ hb _).mono ?_; rintro e w' ⟨rfl, rfl⟩) | (go_at_call 47; refine (unsigned_c _ _ hb _).mono ?_; rintro e w' ⟨rfl, rfl⟩) | (go_at_call 81; refine (truth_c _ _).mono ?_; rintro e w' ⟨rfl, rfl⟩) | go_in)
  go_ret
  exact ⟨ret_int (rfl), hb1⟩
set_option maxHeartbeats 400000 in
theorem result15 (a b n : Int) (hb : IsBits n) (w : World) :
    Calls Try.prog 50 #[.int .i64 15, .int .i64 a, .int .i64 b, .int .i64 n] w fun e w' => e = .returned (.int .i64 (opw 15 (nm n a) (nm n b) n)) ∧ Below w.heap.size w w' := by
  have b1 := nm_bd hb a
  have b2 := nm_bd hb b
  go_enter Try.func50, Try.ntmps50
  go_wp2_with (first | (go_at_call 67; refine (operator_c 15 84 (by omega) rfl _).mono ?_; rintro e w1 ⟨rfl, hb1⟩) | (go_at_call 45; refine (norm_c _ _ hb _).mono ?_; rintro e w' ⟨rfl, rfl⟩) | (go_at_call 47; refine (unsigned_c _ _ hb _).mono ?_; rintro e w' ⟨rfl, rfl⟩) | (go_at_call 81; refine (truth_c _ _).mono ?_; rintro e w' ⟨rfl, rfl⟩) | go_in)
  go_ret
  exact ⟨ret_int (rfl), hb1⟩
set_option maxHeartbeats 400000 in
theorem result16 (a b n : Int) (hb : IsBits n) (w : World) :
    Calls Try.prog 50 #[.int .i64 16, .int .i64 a, .int .i64 b, .int .i64 n] w fun e w' => e = .returned (.int .i64 (opw 16 (nm n a) (nm n b) n)) ∧ Below w.heap.size w w' := by
  have b1 := nm_bd hb a
  have b2 := nm_bd hb b
  go_enter Try.func50, Try.ntmps50
  go_wp2_with (first | (go_at_call 67; refine (operator_c 16 85 (by omega) rfl _).mono ?_; rintro e w1 ⟨rfl, hb1⟩) | (go_at_call 45; refine (norm_c _ _ hb _).mono ?_; rintro e w' ⟨rfl, rfl⟩) | (go_at_call 47; refine (unsigned_c _ _ hb _).mono ?_; rintro e w' ⟨rfl, rfl⟩) | (go_at_call 81; refine (truth_c _ _).mono ?_; rintro e w' ⟨rfl, rfl⟩) | go_in)
  go_ret
  exact ⟨ret_int (rfl), hb1⟩
set_option maxHeartbeats 400000 in
theorem result17 (a b n : Int) (hb : IsBits n) (w : World) :
    Calls Try.prog 50 #[.int .i64 17, .int .i64 a, .int .i64 b, .int .i64 n] w fun e w' => e = .returned (.int .i64 (opw 17 (nm n a) (nm n b) n)) ∧ Below w.heap.size w w' := by
  have b1 := nm_bd hb a
  have b2 := nm_bd hb b
  go_enter Try.func50, Try.ntmps50
  go_wp2_with (first | (go_at_call 67; refine (operator_c 17 86 (by omega) rfl _).mono ?_; rintro e w1 ⟨rfl, hb1⟩) | (go_at_call 45; refine (norm_c _ _ hb _).mono ?_; rintro e w' ⟨rfl, rfl⟩) | (go_at_call 47; refine (unsigned_c _ _ hb _).mono ?_; rintro e w' ⟨rfl, rfl⟩) | (go_at_call 81; refine (truth_c _ _).mono ?_; rintro e w' ⟨rfl, rfl⟩) | go_in)
  go_ret
  exact ⟨ret_int (rfl), hb1⟩
set_option maxHeartbeats 400000 in
theorem result18 (a b n : Int) (hb : IsBits n) (w : World) :
    Calls Try.prog 50 #[.int .i64 18, .int .i64 a, .int .i64 b, .int .i64 n] w fun e w' => e = .returned (.int .i64 (opw 18 (nm n a) (nm n b) n)) ∧ Below w.heap.size w w' := by
  have b1 := nm_bd hb a
  have b2 := nm_bd hb b
  go_enter Try.func50, Try.ntmps50
  go_wp2_with (first | (go_at_call 67; refine (operator_c 18 87 (by omega) rfl _).mono ?_; rintro e w1 ⟨rfl, hb1⟩) | (go_at_call 45; refine (norm_c _ _ hb _).mono ?_; rintro e w' ⟨rfl, rfl⟩) | (go_at_call 47; refine (unsigned_c _ _ hb _).mono ?_; rintro e w' ⟨rfl, rfl⟩) | (go_at_call 81; refine (truth_c _ _).mono ?_; rintro e w' ⟨rfl, rfl⟩) | go_in)
  go_ret
  exact ⟨ret_int (rfl), hb1⟩
set_option maxHeartbeats 400000 in
theorem result19 (a b n : Int) (hb : IsBits n) (w : World) :
    Calls Try.prog 50 #[.int .i64 19, .int .i64 a, .int .i64 b, .int .i64 n] w fun e w' => e = .returned (.int .i64 (opw 19 (nm n a) (nm n b) n)) ∧ Below w.heap.size w w' := by
  have b1 := nm_bd hb a
  have b2 := nm_bd hb b
  go_enter Try.func50, Try.ntmps50
  go_wp2_with (first | (go_at_call 67; refine (operator_c 19 88 (by omega) rfl _).mono ?_; rintro e w1 ⟨rfl, hb1⟩) | (go_at_call 45; refine (norm_c _ _ hb _).mono ?_; rintro e w' ⟨rfl, rfl⟩) | (go_at_call 47; refine (unsigned_c _ _ hb _).mono ?_; rintro e w' ⟨rfl, rfl⟩) | (go_at_call 81; refine (truth_c _ _).mono ?_; rintro e w' ⟨rfl, rfl⟩) | go_in)
  go_ret
  exact ⟨ret_int (rfl), hb1⟩
end Go.Proofs.Ytmhifelkihcidaa
