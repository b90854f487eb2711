/- GetByte of package word and of its reference: checkByte, split, each by its contract. -/
import Derived.Test.YtmhifelkihcidaaPk
namespace Go.Proofs.Ytmhifelkihcidaa
open Go.RowKit WM
set_option linter.unusedVariables false

set_option maxHeartbeats 400000 in
theorem cb_form (a : Option Addr) (len cap : Nat) (i n : Int) (g : Bool) (hb : ¬ IsBits n) (w : World) :
    Calls Try.prog 58 #[.slice a len cap, .int .i64 (i), .agg #[.int .i64 n, .bool g]] w fun e w' => e = .returned (.int .i64 (3)) ∧ Below w.heap.size w w' := by
  go_enter Try.func58, Try.ntmps58
  go_wp2_with (first | (go_at_call 17; refine (Valid_no _ _ hb _).mono ?_; rintro e w1 ⟨rfl, hb1⟩))
  go_ret
  exact ⟨rfl, (by repeat (first | exact Below.refl _ _ | exact below_alloc _ _ | refine below_back (by assumption) ?_ | refine Below.drew ?_ | refine below_drewN ?_ _ | refine Below.alloc ?_ (by first | exact Nat.le_refl _ | (simp; done) | (simp; omega)) _))⟩
set_option maxHeartbeats 400000 in
theorem cb_neg (a : Option Addr) (len cap : Nat) (i n : Int) (g : Bool) (hb : IsBits n) (hi : i < 0) (w : World) :
    Calls Try.prog 58 #[.slice a len cap, .int .i64 (i), .agg #[.int .i64 n, .bool g]] w fun e w' => e = .returned (.int .i64 (1)) ∧ Below w.heap.size w w' := by
  go_enter Try.func58, Try.ntmps58
  go_wp2_with (first | (go_at_call 17; refine (Valid_yes _ _ hb _).mono ?_; rintro e w1 ⟨rfl, hb1⟩))
  go_ret
  exact ⟨rfl, (by repeat (first | exact Below.refl _ _ | exact below_alloc _ _ | refine below_back (by assumption) ?_ | refine Below.drew ?_ | refine below_drewN ?_ _ | refine Below.alloc ?_ (by first | exact Nat.le_refl _ | (simp; done) | (simp; omega)) _))⟩
set_option maxHeartbeats 400000 in
theorem cb_out (a : Option Addr) (len cap : Nat) (k : Nat) (n : Int) (g : Bool) (hb : IsBits n) (hk : k ≤ 9223372036854775807) (hi : len ≤ wi n k) (w : World) :
    Calls Try.prog 58 #[.slice a len cap, .int .i64 (k), .agg #[.int .i64 n, .bool g]] w fun e w' => e = .returned (.int .i64 (1)) ∧ Below w.heap.size w w' := by
  have hnb := nb_bd hb
  have hq : (len : Int) ≤ (k : Int) / (nb n : Int) := by
    rw [← Int.natCast_ediv]; show ((len : Int) ≤ ((wi n k : Nat) : Int)); omega
  have hk0 : ¬ (k : Int) < 0 := by omega
  have hd := div_nb hb hk
  have hw : wrap64 ((k : Int) / (nb n : Int)) = (k : Int) / (nb n : Int) := IntWalk.wrap64_in _ ⟨by omega, by omega⟩
  clear hi hk
  go_enter Try.func58, Try.ntmps58
  go_wp2_with (first | (go_at_call 17; refine (Valid_yes _ _ hb _).mono ?_; rintro e w1 ⟨rfl, hb1⟩; have hf0 : w1.cell? ⟨w.heap.size, 0, none⟩ = some (.int .i64 n) := (hb1.cell (p := ⟨w.heap.size, 0, none⟩) (by simp)).trans ((World.cell?_alloc_at _ _ _ _ rfl).trans rfl); have hf1 : w1.cell? ⟨w.heap.size, 1, none⟩ = some (.bool g) := (hb1.cell (p := ⟨w.heap.size, 1, none⟩) (by simp)).trans ((World.cell?_alloc_at _ _ _ _ rfl).trans rfl)) | (go_at_call 66; refine (wordBytes_c _ _ hb _).mono ?_; rintro e w2 ⟨rfl, hb2⟩))
  go_ret
  exact ⟨rfl, (by repeat (first | exact Below.refl _ _ | exact below_alloc _ _ | refine below_back (by assumption) ?_ | refine Below.drew ?_ | refine below_drewN ?_ _ | refine Below.alloc ?_ (by first | exact Nat.le_refl _ | (simp; done) | (simp; omega)) _))⟩
set_option maxHeartbeats 400000 in
theorem cb_in (a : Option Addr) (len cap : Nat) (k : Nat) (n : Int) (g : Bool) (hb : IsBits n) (hk : k ≤ 9223372036854775807) (hi : wi n k < len) (w : World) :
    Calls Try.prog 58 #[.slice a len cap, .int .i64 (k), .agg #[.int .i64 n, .bool g]] w fun e w' => e = .returned (.int .i64 (0)) ∧ Below w.heap.size w w' := by
  have hnb := nb_bd hb
  have hq : ¬ (len : Int) ≤ (k : Int) / (nb n : Int) := by
    rw [← Int.natCast_ediv]; show ¬ ((len : Int) ≤ ((wi n k : Nat) : Int)); omega
  have hk0 : ¬ (k : Int) < 0 := by omega
  have hd := div_nb hb hk
  have hw : wrap64 ((k : Int) / (nb n : Int)) = (k : Int) / (nb n : Int) := IntWalk.wrap64_in _ ⟨by omega, by omega⟩
  clear hi hk
  go_enter Try.func58, Try.ntmps58
  go_wp2_with (first | (go_at_call 17; refine (Valid_yes _ _ hb _).mono ?_; rintro e w1 ⟨rfl, hb1⟩; have hf0 : w1.cell? ⟨w.heap.size, 0, none⟩ = some (.int .i64 n) := (hb1.cell (p := ⟨w.heap.size, 0, none⟩) (by simp)).trans ((World.cell?_alloc_at _ _ _ _ rfl).trans rfl); have hf1 : w1.cell? ⟨w.heap.size, 1, none⟩ = some (.bool g) := (hb1.cell (p := ⟨w.heap.size, 1, none⟩) (by simp)).trans ((World.cell?_alloc_at _ _ _ _ rfl).trans rfl)) | (go_at_call 66; refine (wordBytes_c _ _ hb _).mono ?_; rintro e w2 ⟨rfl, hb2⟩))
  go_ret
  exact ⟨rfl, (by repeat (first | exact Below.refl _ _ | exact below_alloc _ _ | refine below_back (by assumption) ?_ | refine Below.drew ?_ | refine below_drewN ?_ _ | refine Below.alloc ?_ (by first | exact Nat.le_refl _ | (simp; done) | (simp; omega)) _))⟩
set_option maxHeartbeats 400000 in
theorem GetByte_form (a : Option Addr) (len cap : Nat) (i n : Int) (g : Bool) (hb : ¬ IsBits n) (w : World) :
    Calls Try.prog 26 #[.slice a len cap, .int .i64 (i), .agg #[.int .i64 n, .bool g]] w fun e w' => e = .returned (.tuple #[.int .i64 (0), .int .i64 (3)]) ∧ Below w.heap.size w w' := by
  go_enter Try.func26, Try.ntmps26
  go_wp2_with (first | (go_at_call 58; refine (cb_form _ _ _ _ _ _ hb _).mono ?_; rintro e w1 ⟨rfl, hb1⟩))
  go_ret2
  exact ⟨rfl, (by repeat (first | exact Below.refl _ _ | exact below_alloc _ _ | refine below_back (by assumption) ?_ | refine Below.drew ?_ | refine below_drewN ?_ _ | refine Below.alloc ?_ (by first | exact Nat.le_refl _ | (simp; done) | (simp; omega)) _))⟩
set_option maxHeartbeats 400000 in
theorem GetByte_neg (a : Option Addr) (len cap : Nat) (i n : Int) (g : Bool) (hb : IsBits n) (hi : i < 0) (w : World) :
    Calls Try.prog 26 #[.slice a len cap, .int .i64 (i), .agg #[.int .i64 n, .bool g]] w fun e w' => e = .returned (.tuple #[.int .i64 (0), .int .i64 (1)]) ∧ Below w.heap.size w w' := by
  go_enter Try.func26, Try.ntmps26
  go_wp2_with (first | (go_at_call 58; refine (cb_neg _ _ _ _ _ _ hb hi _).mono ?_; rintro e w1 ⟨rfl, hb1⟩))
  go_ret2
  exact ⟨rfl, (by repeat (first | exact Below.refl _ _ | exact below_alloc _ _ | refine below_back (by assumption) ?_ | refine Below.drew ?_ | refine below_drewN ?_ _ | refine Below.alloc ?_ (by first | exact Nat.le_refl _ | (simp; done) | (simp; omega)) _))⟩
set_option maxHeartbeats 400000 in
theorem GetByte_out (a : Option Addr) (len cap : Nat) (k : Nat) (n : Int) (g : Bool) (hb : IsBits n) (hk : k ≤ 9223372036854775807) (hi : len ≤ wi n k) (w : World) :
    Calls Try.prog 26 #[.slice a len cap, .int .i64 (k), .agg #[.int .i64 n, .bool g]] w fun e w' => e = .returned (.tuple #[.int .i64 (0), .int .i64 (1)]) ∧ Below w.heap.size w w' := by
  go_enter Try.func26, Try.ntmps26
  go_wp2_with (first | (go_at_call 58; refine (cb_out _ _ _ k _ _ hb hk hi _).mono ?_; rintro e w1 ⟨rfl, hb1⟩))
  go_ret2
  exact ⟨rfl, (by repeat (first | exact Below.refl _ _ | exact below_alloc _ _ | refine below_back (by assumption) ?_ | refine Below.drew ?_ | refine below_drewN ?_ _ | refine Below.alloc ?_ (by first | exact Nat.le_refl _ | (simp; done) | (simp; omega)) _))⟩
set_option maxHeartbeats 400000 in
theorem GetByte_in (b off cap : Nat) (xs : List Int) (k : Nat) (n : Int) (g : Bool) (hb : IsBits n) (hk : k < 140737488355328) (hi : wi n k < xs.length) (hm : xs.length ≤ 2147483647) (w : World) (hc : w.cell? ⟨b, off + wi n k, none⟩ = some (.int .i64 (xs.getD (wi n k) 0))) :
    Calls Try.prog 26 #[.slice (some ⟨b, off, none⟩) xs.length cap, .int .i64 (k), .agg #[.int .i64 n, .bool g]] w fun e w' => e = .returned (.tuple #[.int .i64 (gb n g xs k), .int .i64 (0)]) ∧ Below w.heap.size w w' := by
  have hgb := gb_bd n g xs k
  have hbB := World.block_lt_of_cell? w _ hc
  have HI : Hid (wi n k < xs.length) := hi
  clear hi
  go_enter Try.func26, Try.ntmps26
  go_wp2_with (first | (go_at_call 58; refine (cb_in _ _ _ k _ _ hb (by omega) HI _).mono ?_; rintro e w1 ⟨rfl, hb1⟩; have hf0 : w1.cell? ⟨w.heap.size, 0, none⟩ = some (.int .i64 n) := (hb1.cell (p := ⟨w.heap.size, 0, none⟩) (by simp)).trans ((World.cell?_alloc_at _ _ _ _ rfl).trans rfl); have hf1 : w1.cell? ⟨w.heap.size, 1, none⟩ = some (.bool g) := (hb1.cell (p := ⟨w.heap.size, 1, none⟩) (by simp)).trans ((World.cell?_alloc_at _ _ _ _ rfl).trans rfl); have hc1 : w1.cell? ⟨b, off + wi n k, none⟩ = some (.int .i64 (xs.getD (wi n k) 0)) := ((below_alloc w _).trans (hb1.mono (by simp))).cell (p := ⟨b, off + wi n k, none⟩) hbB |>.trans hc) | (go_at_call 59; refine (byteAt_c b off cap xs k n g hb hk HI (by omega) _ hc1).mono ?_; rintro e w2 ⟨rfl, hb2⟩))
  go_ret2
  exact ⟨rfl, (by repeat (first | exact Below.refl _ _ | exact below_alloc _ _ | refine below_back (by assumption) ?_ | refine Below.drew ?_ | refine below_drewN ?_ _ | refine Below.alloc ?_ (by first | exact Nat.le_refl _ | (simp; done) | (simp; omega)) _))⟩
end Go.Proofs.Ytmhifelkihcidaa
