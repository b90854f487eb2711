/- The reference's bytes of a word: size, split, GetByte, each by its contract. -/
import Derived.Test.YtmhifelkihcidaaWGb
import Derived.Test.YtmhifelkihcidaaWRef
namespace Go.Proofs.Ytmhifelkihcidaa
open Go.RowKit WM
set_option linter.unusedVariables false

set_option maxHeartbeats 400000 in
theorem refValid_yes (n : Int) (g : Bool) (hb : IsBits n) (w : World) :
    Calls Try.prog 42 #[.agg #[.int .i64 n, .bool g]] w fun e w' => e = .returned (.bool true) ∧ Below w.heap.size w w' := by
  go_enter Try.func42, Try.ntmps42
  go_wp2_with (first | (go_at_call 18; refine (refBits_yes _ hb _).mono ?_; rintro e w' ⟨rfl, rfl⟩))
  go_ret
  exact ⟨rfl, (by repeat (first | exact Below.refl _ _ | exact below_alloc _ _ | refine below_back (by assumption) ?_ | refine Below.drew ?_ | refine below_drewN ?_ _ | refine Below.alloc ?_ (by first | exact Nat.le_refl _ | (simp; done) | (simp; omega)) _))⟩
set_option maxHeartbeats 400000 in
theorem refValid_no (n : Int) (g : Bool) (hb : ¬ IsBits n) (w : World) :
    Calls Try.prog 42 #[.agg #[.int .i64 n, .bool g]] w fun e w' => e = .returned (.bool false) ∧ Below w.heap.size w w' := by
  go_enter Try.func42, Try.ntmps42
  go_wp2_with (first | (go_at_call 18; refine (refBits_no _ hb _).mono ?_; rintro e w' ⟨rfl, rfl⟩))
  go_ret
  exact ⟨rfl, (by repeat (first | exact Below.refl _ _ | exact below_alloc _ _ | refine below_back (by assumption) ?_ | refine Below.drew ?_ | refine below_drewN ?_ _ | refine Below.alloc ?_ (by first | exact Nat.le_refl _ | (simp; done) | (simp; omega)) _))⟩
set_option maxHeartbeats 400000 in
theorem refsize_c (n : Int) (g : Bool) (hb : IsBits n) (w : World) :
    Calls Try.prog 60 #[.agg #[.int .i64 n, .bool g]] w fun e w' => e = .returned (.int .i64 ((nb n : Nat))) ∧ Below w.heap.size w w' := by
  rcases hb with rfl | rfl | rfl
  all_goals
    go_enter Try.func60, Try.ntmps60
    go_wp2
    go_ret
    exact ⟨rfl, (by repeat (first | exact Below.refl _ _ | exact below_alloc _ _ | refine below_back (by assumption) ?_ | refine Below.drew ?_ | refine below_drewN ?_ _ | refine Below.alloc ?_ (by first | exact Nat.le_refl _ | (simp; done) | (simp; omega)) _))⟩
/-- the call returns the bytes of a word, in new memory of its own -/
def GivesSplit (xs : List Int) (m : Nat) (w : World) (e : Ending) (w' : World) : Prop := ∃ b, e = .returned (.slice (some ⟨b, 0, none⟩) m m) ∧ w.heap.size ≤ b ∧ w'.ownsRow w.heap.size 3 1 (.slice (some ⟨b, 0, none⟩) m m) m (xs.map (.int .i64)) ∧ Below w.heap.size w w'
set_option maxHeartbeats 800000 in
theorem split_c (x n : Int) (g : Bool) (hb : IsBits n) (w : World) :
    Calls Try.prog 61 #[.int .i64 x, .agg #[.int .i64 n, .bool g]] w (GivesSplit (spl n g x) (nb n) w) := by
  obtain ⟨i0, hi, hz0, hz1, hz2⟩ := info_parts info_int
  have hnb := nb_bd hb
  have hu := un_bd hb x
  go_enter Try.func61, Try.ntmps61
  go_wp2_with (first | (go_at_call 48; refine (refuns_c _ _ hb _).mono ?_; rintro e w' ⟨rfl, rfl⟩) | (go_at_call 60; refine (refsize_c n g hb _).mono ?_; rintro e w1 ⟨rfl, hb1⟩) | (at_make; refine wpList_make_full _ rfl _ _ 37 rfl (w.heap.size + 1) 3 i0 (.int .i64 0) 1 Try.underlying37 hi hz0 hz1 .i64 .i64 _ _ (nb n) rfl rfl rfl rfl ?_ ?_ ?_ ?_))
  · rw [hz2]; omega
  · unfold maxLen; omega
  · have := hb1.size; simp at this; omega
  · intro w2 hown2 hgrow2
    rw [toList_madeCells_one] at hown2
    have hs1 : w.heap.size < w1.heap.size := by have := hb1.size; simp at this; omega
    have hs2 := hgrow2.size
    have hf0 : w2.cell? ⟨w.heap.size, 0, none⟩ = some (.int .i64 n) := hgrow2.cell ((hb1.cell (p := ⟨w.heap.size, 0, none⟩) (by simp)).trans ((World.cell?_alloc_at _ _ _ _ rfl).trans rfl)) (by simp)
    have hf1 : w2.cell? ⟨w.heap.size, 1, none⟩ = some (.bool g) := hgrow2.cell ((hb1.cell (p := ⟨w.heap.size, 1, none⟩) (by simp)).trans ((World.cell?_alloc_at _ _ _ _ rfl).trans rfl)) (by simp)
    have hnx2 : Below w.heap.size w w2 := ((below_alloc w _).trans (hb1.mono (by simp))).grown hgrow2 (by omega) (by simp)
    clear hgrow2 hb1 hi hz0 hz1 hz2
    generalize hw1 : w1.heap.size = W at *
    clear hw1
    go_wp2_with fail
    go_loopw [5, 7] (fun v i wr => ∃ k : Nat, k ≤ nb n ∧ i = .int .i64 k ∧ v = .int .i64 (vk n x k) ∧ wr.ownsRow (w.heap.size + 1) 3 1 (.slice (some ⟨W, 0, none⟩) (nb n) (nb n)) (nb n) ((sl n g x k).map (.int .i64)) ∧ wr.cell? ⟨w.heap.size, 0, none⟩ = some (.int .i64 n) ∧ wr.cell? ⟨w.heap.size, 1, none⟩ = some (.bool g) ∧ Below w.heap.size w wr ∧ W < wr.heap.size) (fun _ i _ => nb n - (intOf i).toNat)
    case atStart => exact ⟨0, Nat.zero_le _, rfl, by rw [vk_0], by simpa [sl] using hown2, hf0, hf1, hnx2, hown2.lt W rfl |>.2⟩
    case round =>
      obtain ⟨k, hk, rfl, rfl, hownr, hr0, hr1, hnx, hsz⟩ := hrel
      clear hown2 hf0 hf1 hnx2
      by_cases hlt : k < nb n
      · have hv := vk_bd hb x k
        have hfz := hownr.frozenAt (wpos n g k)
        have hcl := own_cell hownr (wpos n g k) (wpos_lt n g k hlt)
        have hset := setAt_own hownr (wpos n g k) (vk n x k % 256)
        have hgr := (hownr.stored (wpos n g k) (.int .i64 (vk n x k % 256))).2
        have HS : Hid (sl n g x (k + 1) = (sl n g x k).set (wpos n g k) (vk n x k % 256)) := rfl
        have HV : Hid (vk n x (k + 1) = vk n x k / 256) := vk_succ n x k
        generalize hvv : vk n x k = v at *
        clear hvv
        cases g with
        | false =>
          have e0 : wpos n false k = k := rfl
          rw [e0] at hfz hset hgr HS hcl
          clear e0
          go_wp2
          go_roundw
          case rel => exact ⟨k + 1, by omega, by go_num, by rw [show vk n x (k + 1) = v / 256 from HV], by rw [show sl n false x (k + 1) = _ from HS]; exact hset, hgr.cell hr0 (by simp; omega), hgr.cell hr1 (by simp; omega), hnx.setCell (by show w.heap.size ≤ W; omega) _, by simp; omega⟩
          case measure => simp [intOf]; omega
        | true =>
          have e0 : wpos n true k = nb n - 1 - k := rfl
          rw [e0] at hfz hset hgr HS hcl
          clear e0
          have hidx : (nb n : Int) - 1 - (k : Int) = ((nb n - 1 - k : Nat) : Int) := by omega
          go_wp2
          go_roundw
          case rel => exact ⟨k + 1, by omega, by go_num, by rw [show vk n x (k + 1) = v / 256 from HV], by rw [show sl n true x (k + 1) = _ from HS]; exact hset, hgr.cell hr0 (by simp; omega), hgr.cell hr1 (by simp; omega), hnx.setCell (by show w.heap.size ≤ W; omega) _, by simp; omega⟩
          case measure => simp [intOf]; omega
      · obtain rfl : k = nb n := by omega
        clear hlt hk
        go_wp2
        go_ret
        exact ⟨W, rfl, by omega, own_base hownr (by omega), hnx⟩
end Go.Proofs.Ytmhifelkihcidaa
