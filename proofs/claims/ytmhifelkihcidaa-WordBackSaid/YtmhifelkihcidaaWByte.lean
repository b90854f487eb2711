/- Where the bytes of words lie: place, checkByte, byteAt, GetByte of package word, each by its contract. -/
import Derived.Test.YtmhifelkihcidaaWApp
import Derived.Test.YtmhifelkihcidaaWBMath
import Derived.Deep.QuietTactic
import Derived.BigQuiet
import Derived.WalkSmall
import Derived.Lib.Hide
namespace Go.Proofs.Ytmhifelkihcidaa
open Go.RowKit WM
set_option linter.unusedVariables false
theorem ret_ii {k k' : IntKind} {a b a' b' : Int} (h : a = b) (h' : a' = b') : Ending.returned (.tuple #[.int k a, .int k' a']) = .returned (.tuple #[.int k b, .int k' b']) := by rw [h, h']
theorem wordBytes_c (n : Int) (g : Bool) (hb : IsBits n) (w : World) :
    Calls Try.prog 66 #[.agg #[.int .i64 n, .bool g]] w fun e w' => e = .returned (.int .i64 (nb n : Nat)) ∧ Below w.heap.size w w' := by
  rcases hb with rfl | rfl | rfl
  all_goals
    go_enter Try.func66, Try.ntmps66
    go_wp2
    go_ret
    exact ⟨rfl, (Below.refl _ _).alloc (Nat.le_refl _) _⟩
set_option maxHeartbeats 400000 in
theorem place_c (i : Nat) (n : Int) (g : Bool) (hb : IsBits n) (hi : i < 140737488355328) (w : World) :
    Calls Try.prog 62 #[.int .i64 (i), .agg #[.int .i64 n, .bool g]] w fun e w' => e = .returned (.tuple #[.int .i64 ((wi n i : Nat)), .int .i64 ((ws n g i : Nat))]) ∧ Below w.heap.size w w' := by
  rcases hb with rfl | rfl | rfl <;> cases g
  · go_enter Try.func62, Try.ntmps62
    go_wp2
    go_ret2
    exact ⟨ret_ii (wi16 i) (ws16_false i), ((Below.refl _ _).alloc (Nat.le_refl _) _).alloc (by simp) _⟩
  · go_enter Try.func62, Try.ntmps62
    go_wp2
    go_ret2
    exact ⟨ret_ii (wi16 i) (ws16_true i), ((Below.refl _ _).alloc (Nat.le_refl _) _).alloc (by simp) _⟩
  · go_enter Try.func62, Try.ntmps62
    go_wp2
    go_ret2
    exact ⟨ret_ii (wi24 i) (ws24_false i), ((Below.refl _ _).alloc (Nat.le_refl _) _).alloc (by simp) _⟩
  · go_enter Try.func62, Try.ntmps62
    go_wp2
    go_ret2
    exact ⟨ret_ii (wi24 i) (ws24_true i), ((Below.refl _ _).alloc (Nat.le_refl _) _).alloc (by simp) _⟩
  · go_enter Try.func62, Try.ntmps62
    go_wp2
    go_ret2
    exact ⟨ret_ii (wi32 i) (ws32_false i), ((Below.refl _ _).alloc (Nat.le_refl _) _).alloc (by simp) _⟩
  · go_enter Try.func62, Try.ntmps62
    go_wp2
    go_ret2
    exact ⟨ret_ii (wi32 i) (ws32_true i), ((Below.refl _ _).alloc (Nat.le_refl _) _).alloc (by simp) _⟩
set_option maxHeartbeats 400000 in
theorem byteAt_c (b off cap : Nat) (xs : List Int) (i : Nat) (n : Int) (g : Bool) (hb : IsBits n) (hi : i < 140737488355328) (hl : wi n i < xs.length) (hm : xs.length ≤ 9223372036854775807) (w : World) (hc : w.cell? ⟨b, off + wi n i, none⟩ = some (.int .i64 (xs.getD (wi n i) 0))) :
    Calls Try.prog 59 #[.slice (some ⟨b, off, none⟩) xs.length cap, .int .i64 (i), .agg #[.int .i64 n, .bool g]] w fun e w' => e = .returned (.int .u8 (gb n g xs i)) ∧ Below w.heap.size w w' := by
  have hbB := World.block_lt_of_cell? w _ hc
  have hs := ws_le hb g i
  generalize hx : xs.getD (wi n i) 0 = x at *
  have HX := Lib.hid hx
  clear hx
  go_enter Try.func59, Try.ntmps59
  go_wp2_with fail
  refine (place_c i n g hb hi _).mono ?_
  rintro e w1 ⟨rfl, hb1⟩
  have hc1 : w1.cell? ⟨b, off + wi n i, none⟩ = some (.int .i64 x) := by
    rw [hb1.cell (p := ⟨b, off + wi n i, none⟩) (by simp at hbB ⊢; omega)]
    exact ((Below.refl w.heap.size w).alloc (Nat.le_refl _) _).cell (p := ⟨b, off + wi n i, none⟩) hbB |>.trans hc
  clear hc
  go_wp2_with fail
  go_ret
  refine ⟨ret_int (by unfold gb; rw [HX.out]), ?_⟩
  exact ((Below.refl w.heap.size w).alloc (Nat.le_refl _) _).trans (hb1.mono (by simp))
end Go.Proofs.Ytmhifelkihcidaa
