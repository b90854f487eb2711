/- GetByte of the reference by its contract. -/
import Derived.Test.YtmhifelkihcidaaWSplit
import Derived.Deep.RegionWith
namespace Go.Proofs.Ytmhifelkihcidaa
open Go.RowKit WM
set_option linter.unusedVariables false

set_option maxHeartbeats 400000 in
theorem refGetByte_form (a : Option Addr) (len cap : Nat) (i n : Int) (g : Bool) (hb : ¬ IsBits n) (w : World) :
    Calls Try.prog 27 #[.slice a len cap, .int .i64 (i), .agg #[.int .i64 n, .bool g]] w fun e w' => e = .returned (.tuple #[.int .i64 (0), .int .i64 (3)]) ∧ Below w.heap.size w w' := by
  go_enter Try.func27, Try.ntmps27
  go_wp2_with (first | (go_at_call 42; refine (refValid_no _ _ hb _).mono ?_; rintro e w1 ⟨rfl, hb1⟩))
  go_ret2
  exact ⟨rfl, (by repeat (first | exact Below.refl _ _ | exact below_alloc _ _ | refine below_back (by assumption) ?_ | refine Below.drew ?_ | refine below_drewN ?_ _ | refine Below.alloc ?_ (by first | exact Nat.le_refl _ | (simp; done) | (simp; omega)) _))⟩
set_option maxHeartbeats 400000 in
theorem refGetByte_neg (a : Option Addr) (len cap : Nat) (i n : Int) (g : Bool) (hb : IsBits n) (hi : i < 0) (w : World) :
    Calls Try.prog 27 #[.slice a len cap, .int .i64 (i), .agg #[.int .i64 n, .bool g]] w fun e w' => e = .returned (.tuple #[.int .i64 (0), .int .i64 (1)]) ∧ Below w.heap.size w w' := by
  go_enter Try.func27, Try.ntmps27
  go_wp2_with (first | (go_at_call 42; refine (refValid_yes _ _ hb _).mono ?_; rintro e w1 ⟨rfl, hb1⟩; have hf0 : w1.cell? ⟨w.heap.size, 0, none⟩ = some (.int .i64 n) := (hb1.cell (p := ⟨w.heap.size, 0, none⟩) (by simp)).trans ((World.cell?_alloc_at _ _ _ _ rfl).trans rfl); have hf1 : w1.cell? ⟨w.heap.size, 1, none⟩ = some (.bool g) := (hb1.cell (p := ⟨w.heap.size, 1, none⟩) (by simp)).trans ((World.cell?_alloc_at _ _ _ _ rfl).trans rfl)) | (go_at_call 60; refine (refsize_c _ _ hb _).mono ?_; rintro e w2 ⟨rfl, hb2⟩; have hg0 : w2.cell? ⟨w.heap.size, 0, none⟩ = some (.int .i64 n) := (hb2.cell (p := ⟨w.heap.size, 0, none⟩) (World.block_lt_of_cell? _ _ hf0)).trans hf0; have hg1 : w2.cell? ⟨w.heap.size, 1, none⟩ = some (.bool g) := (hb2.cell (p := ⟨w.heap.size, 1, none⟩) (World.block_lt_of_cell? _ _ hf1)).trans hf1))
  go_ret2
  exact ⟨rfl, (by repeat (first | exact Below.refl _ _ | exact below_alloc _ _ | refine below_back (by assumption) ?_ | refine Below.drew ?_ | refine below_drewN ?_ _ | refine Below.alloc ?_ (by first | exact Nat.le_refl _ | (simp; done) | (simp; omega)) _))⟩
set_option maxHeartbeats 400000 in
theorem refGetByte_out (a : Option Addr) (len cap : Nat) (k : Nat) (n : Int) (g : Bool) (hb : IsBits n) (hk : k ≤ 9223372036854775807) (hi : len ≤ wi n k) (w : World) :
    Calls Try.prog 27 #[.slice a len cap, .int .i64 (k), .agg #[.int .i64 n, .bool g]] w fun e w' => e = .returned (.tuple #[.int .i64 (0), .int .i64 (1)]) ∧ Below w.heap.size w w' := by
  have hnb := nb_bd hb
  have hq : (len : Int) ≤ (k : Int) / (nb n : Int) := by
    rw [← Int.natCast_ediv]; show ((len : Int) ≤ ((wi n k : Nat) : Int)); omega
  have hk0 : ¬ (k : Int) < 0 := by omega
  have hd := div_nb hb hk
  have hw : wrap64 ((k : Int) / (nb n : Int)) = (k : Int) / (nb n : Int) := IntWalk.wrap64_in _ ⟨by omega, by omega⟩
  clear hi hk
  go_enter Try.func27, Try.ntmps27
  go_wp2_with (first | (go_at_call 42; refine (refValid_yes _ _ hb _).mono ?_; rintro e w1 ⟨rfl, hb1⟩; have hf0 : w1.cell? ⟨w.heap.size, 0, none⟩ = some (.int .i64 n) := (hb1.cell (p := ⟨w.heap.size, 0, none⟩) (by simp)).trans ((World.cell?_alloc_at _ _ _ _ rfl).trans rfl); have hf1 : w1.cell? ⟨w.heap.size, 1, none⟩ = some (.bool g) := (hb1.cell (p := ⟨w.heap.size, 1, none⟩) (by simp)).trans ((World.cell?_alloc_at _ _ _ _ rfl).trans rfl)) | (go_at_call 60; refine (refsize_c _ _ hb _).mono ?_; rintro e w2 ⟨rfl, hb2⟩; have hg0 : w2.cell? ⟨w.heap.size, 0, none⟩ = some (.int .i64 n) := (hb2.cell (p := ⟨w.heap.size, 0, none⟩) (World.block_lt_of_cell? _ _ hf0)).trans hf0; have hg1 : w2.cell? ⟨w.heap.size, 1, none⟩ = some (.bool g) := (hb2.cell (p := ⟨w.heap.size, 1, none⟩) (World.block_lt_of_cell? _ _ hf1)).trans hf1))
  go_ret2
  exact ⟨rfl, (by repeat (first | exact Below.refl _ _ | exact below_alloc _ _ | refine below_back (by assumption) ?_ | refine Below.drew ?_ | refine below_drewN ?_ _ | refine Below.alloc ?_ (by first | exact Nat.le_refl _ | (simp; done) | (simp; omega)) _))⟩
set_option maxHeartbeats 400000 in
theorem refGetByte_in (b off cap : Nat) (xs : List Int) (k : Nat) (n : Int) (g : Bool) (hb : IsBits n) (hk : k < 140737488355328) (hi : wi n k < xs.length) (hm : xs.length ≤ 2147483647) (w : World) (hc : w.cell? ⟨b, off + wi n k, none⟩ = some (.int .i64 (xs.getD (wi n k) 0))) :
    Calls Try.prog 27 #[.slice (some ⟨b, off, none⟩) xs.length cap, .int .i64 (k), .agg #[.int .i64 n, .bool g]] w fun e w' => e = .returned (.tuple #[.int .i64 (gb n g xs k), .int .i64 (0)]) ∧ Below w.heap.size w w' := by
  have hnb := nb_bd hb
  have hq : ¬ (xs.length : Int) ≤ (wi n k : Int) := by omega
  have hi0 : (0 : Int) ≤ (wi n k : Int) := by omega
  have hi2 : (wi n k : Int) < (xs.length : Int) := by omega
  have hk0 : ¬ (k : Int) < 0 := by omega
  have hw : (k : Int) / (nb n : Int) = ((wi n k : Nat) : Int) := by rw [← Int.natCast_ediv]; rfl
  have hr : (k : Int) % (nb n : Int) = ((k % nb n : Nat) : Int) := by rw [← Int.natCast_emod]
  have hw1 : (k : Int).tdiv (nb n : Int) = ((wi n k : Nat) : Int) := by rw [Int.tdiv_eq_ediv_of_nonneg (by omega)]; exact hw
  have hw2 : IntKind.i64.wrap ((wi n k : Nat) : Int) = ((wi n k : Nat) : Int) := IntWalk.i64_in _ ⟨by omega, by omega⟩
  have hr1 : (k : Int).tmod (nb n : Int) = ((k % nb n : Nat) : Int) := by rw [Int.tmod_eq_emod_of_nonneg (by omega)]; exact hr
  have hml : k % nb n < nb n := Nat.mod_lt _ (by omega)
  have hgb := gb_spl hb g xs k
  generalize hqq : k % nb n = q at *
  clear hqq
  have hbB := World.block_lt_of_cell? w _ hc
  generalize hx : xs.getD (wi n k) 0 = x at *
  clear hx
  have HGB : Hid ((spl n g x).getD q 0 = gb n g xs k) := hgb
  clear hgb
  go_enter Try.func27, Try.ntmps27
  go_wp2_with (first | (go_at_call 42; refine (refValid_yes _ _ hb _).mono ?_; rintro e w1 ⟨rfl, hb1⟩; have hf0 : w1.cell? ⟨w.heap.size, 0, none⟩ = some (.int .i64 n) := (hb1.cell (p := ⟨w.heap.size, 0, none⟩) (by simp)).trans ((World.cell?_alloc_at _ _ _ _ rfl).trans rfl); have hf1 : w1.cell? ⟨w.heap.size, 1, none⟩ = some (.bool g) := (hb1.cell (p := ⟨w.heap.size, 1, none⟩) (by simp)).trans ((World.cell?_alloc_at _ _ _ _ rfl).trans rfl)) | (go_at_call 60; refine (refsize_c _ _ hb _).mono ?_; rintro e w2 ⟨rfl, hb2⟩; have hg0 : w2.cell? ⟨w.heap.size, 0, none⟩ = some (.int .i64 n) := (hb2.cell (p := ⟨w.heap.size, 0, none⟩) (World.block_lt_of_cell? _ _ hf0)).trans hf0; have hg1 : w2.cell? ⟨w.heap.size, 1, none⟩ = some (.bool g) := (hb2.cell (p := ⟨w.heap.size, 1, none⟩) (World.block_lt_of_cell? _ _ hf1)).trans hf1))
  have hcw : w2.cell? ⟨b, off + wi n k, none⟩ = some (.int .i64 x) := ((below_then (below_then (below_alloc w _) hb1) hb2).cell (p := ⟨b, off + wi n k, none⟩) hbB).trans hc
  go_region_with ((first | (go_at_call 61; refine (split_c _ _ _ hb _).mono ?_; rintro e w3 ⟨b3, rfl, hb3le, hown3, hb3⟩; have hc3 := own_cell hown3 q hml)))
  all_goals (go_wp2; go_ret2; exact ⟨ret2_int HGB.out, (by repeat (first | exact Below.refl _ _ | exact below_alloc _ _ | refine below_back (by assumption) ?_ | refine Below.drew ?_ | refine below_drewN ?_ _ | refine Below.alloc ?_ (by first | exact Nat.le_refl _ | (simp; done) | (simp; omega)) _))⟩)
end Go.Proofs.Ytmhifelkihcidaa
