/- How the library writes a number to the base 16. -/
import Derived.Test.YtpcepfoebkmbgaaDoorLxDig
import Derived.Lib.LaidTab
import Derived.Outline
import Derived.Lib.SmallJoins
namespace Go.Proofs.YtpcepfoebkmbgaaDoor
open Go.RowKit
set_option linter.unusedVariables false
theorem pow_c (w : World) : Calls Tryd.prog 66 #[.int .i64 16] w fun e w' => e = .returned (.bool true) ∧ w = w' := by
  go_enter Tryd.func66, Tryd.ntmps66
  go_wp2
  go_ret
  exact ⟨rfl, rfl⟩
theorem tz64_c (w : World) (h : w.cell? ⟨2, 15, none⟩ = some (.int .u8 4)) : Calls Tryd.prog 72 #[.int .u64 16] w fun e w' => e = .returned (.int .i64 4) ∧ w = w' := by
  have e1 : bits BinOp.and IntKind.u64 16 (IntKind.u64.wrap (-16)) = 16 := by decide +kernel
  have e2 : IntKind.u64.wrap (16 * 285870213051353865) = 4573923408821661840 := by decide +kernel
  go_enter Tryd.func72, Tryd.ntmps72
  go_wp2
  go_ret
  exact ⟨rfl, rfl⟩
theorem tz_c (w : World) (h : w.cell? ⟨2, 15, none⟩ = some (.int .u8 4)) : Calls Tryd.prog 67 #[.int .u64 16] w fun e w' => e = .returned (.int .i64 4) ∧ w = w' := by
  go_enter Tryd.func67, Tryd.ntmps67
  go_wp2_with (go_at_call 72; refine (tz64_c _ h).mono ?_; rintro e w' ⟨rfl, rfl⟩)
  go_ret
  exact ⟨rfl, rfl⟩
/-- the digits ds stand at the end of the array, from i on -/
def ArrAt (W : World) (b i : Nat) (ds : LX.Bs) : Prop := ∃ cs : Array Value, W.heap[b]? = some (.cells cs 86 (0, 0)) ∧ cs.size = 65 ∧ i + ds.length = 65 ∧ ∀ j, j < ds.length → cs[i + j]? = some (bc (ds.getD j 0))
theorem ArrAt.cell {W : World} {b i : Nat} {ds : LX.Bs} (h : ArrAt W b i ds) (k : Nat) (hk : k < 65) : ∃ v, W.cell? ⟨b, k, none⟩ = some v := by
  obtain ⟨cs, h1, h2, _⟩ := h
  have h3 : k < cs.size := by omega
  exact ⟨cs[k], by simp [World.cell?, h1, h3]⟩
theorem ArrAt.free {W : World} {b i : Nat} {ds : LX.Bs} (h : ArrAt W b i ds) (o : Nat) : W.frozen? ⟨b, o, none⟩ = false := by
  obtain ⟨cs, h1, _⟩ := h
  simp [World.frozen?, h1]
theorem ArrAt.put {W : World} {b i k : Nat} {ds : LX.Bs} (h : ArrAt W b i ds) (hk : i = k + 1) (c : UInt8) : ArrAt (W.setCell ⟨b, k, none⟩ (bc c)) b k (c :: ds) := by
  obtain ⟨cs, h1, h2, h3, h4⟩ := h
  subst hk
  refine ⟨cs.setIfInBounds k (bc c), Joins.block_setCell h1 _, by simp [h2], by simp; omega, ?_⟩
  intro j hj
  cases j with
  | zero => simp [Array.getElem?_setIfInBounds]; omega
  | succ j =>
    have := h4 j (by simpa using hj)
    rw [Array.getElem?_setIfInBounds, if_neg (by omega), show k + (j + 1) = k + 1 + j from by omega, this]
    simp
theorem ArrAt.read {W : World} {b i : Nat} {ds : LX.Bs} (h : ArrAt W b i ds) (j : Nat) (hj : j < ds.length) : W.cell? ⟨b, i + j, none⟩ = some (bc (ds.getD j 0)) := by
  obtain ⟨cs, h1, h2, h3, h4⟩ := h
  have := h4 j hj
  simp [World.cell?, h1, this]
theorem and15 (m : Nat) (h : m ≤ 4294967295) : bits BinOp.and IntKind.u64 (m : Int) 15 = (m : Int) % 16 := by
  have h := bits_and_u64_nat m 15 (by omega) (by omega)
  have h2 : m &&& 15 = m % 16 := Nat.and_two_pow_sub_one_eq_mod m 4
  rw [h2] at h
  exact h.trans (Int.natCast_emod m 16)
theorem d36_all : ∀ d : Fin 16, (⟨#[48, 49, 50, 51, 52, 53, 54, 55, 56, 57, 97, 98, 99, 100, 101, 102, 103, 104, 105, 106, 107, 108, 109, 110, 111, 112, 113, 114, 115, 116, 117, 118, 119, 120, 121, 122]⟩ : ByteArray)[d.val]'(Nat.lt_of_lt_of_le d.isLt (by decide)) = LX.hexc d.val := by decide +kernel
theorem d36_at (d : Nat) (h : d < 16) : (⟨#[48, 49, 50, 51, 52, 53, 54, 55, 56, 57, 97, 98, 99, 100, 101, 102, 103, 104, 105, 106, 107, 108, 109, 110, 111, 112, 113, 114, 115, 116, 117, 118, 119, 120, 121, 122]⟩ : ByteArray)[d]'(Nat.lt_of_lt_of_le h (by decide)) = LX.hexc d := d36_all ⟨d, h⟩
theorem dig_len_ge (m : Nat) : 1 ≤ (LX.dig 16 m).length := by
  have := LX.dig_ne 16 m
  cases hx : LX.dig 16 m with
  | nil => exact absurd hx this
  | cons _ _ => simp
theorem slice_at (W : World) (b k n : Nat) (h1 : 1 ≤ k) (hn : n + k = 66) (h2 : 1 ≤ n) : (Instr.sliceAt 86 (.pointer (some ⟨b, 0, none⟩)) (some (.int .i64 ((k : Int) - 1))) none none).run Tryd.prog W = .ok (.slice (some ⟨b, k - 1, none⟩) n n) W := by
  have hal : Tryd.prog.arrayLen 86 = 65 := by kernel_rfl
  have hel : Tryd.prog.elem 86 = 5 := by kernel_rfl
  rw [run_sliceAt_array_l W 86 ⟨b, 0, none⟩ (by rw [hal, hel]; exact Tryd.underlying86) .i64 _ (by omega) (by rw [hal]; omega), hal, hel, Tryd.sizeOf5]
  have e1 : ((k : Int) - 1).toNat = k - 1 := by omega
  have e2 : ¬ (65 = k - 1) := by omega
  have e3 : 65 - (k - 1) = n := by omega
  simp only [Result.andThen_ok, slicedAt, e1, if_neg e2, e3, add_plain, Nat.zero_add, Nat.mul_one]
set_option maxRecDepth 100000 in
set_option maxHeartbeats 2000000 in
theorem formatBits_c (u : Nat) (w : World) (h0 : 2147483648 ≤ u) (h1 : u ≤ 4294967295) (h : w.cell? ⟨2, 15, none⟩ = some (.int .u8 4)) :
    Calls Tryd.prog 53 #[.slice none 0 0, .int .u64 (u : Int), .int .i64 16, .bool false, .bool false] w fun e w' => e = .returned (.tuple #[.slice none 0 0, .string ⟨(LX.dig 16 u).toArray⟩]) ∧ Below w.heap.size w w' := by
  have hh : ∀ o, (w.alloc o).cell? ⟨2, 15, none⟩ = some (.int .u8 4) := fun o => ((below_alloc w o).cell (p := ⟨2, 15, none⟩) (World.block_lt_of_cell? w _ h)).trans h
  have HH := Lib.hid hh
  clear hh h
  go_enter Tryd.func53, Tryd.ntmps53
  go_wp2_with (first | (go_at_call 66; refine (pow_c _).mono ?_; rintro e w' ⟨rfl, rfl⟩) | (go_at_call 67; refine (tz_c _ (HH.out _)).mono ?_; rintro e w' ⟨rfl, rfl⟩))
  obtain ⟨W0, hW0⟩ : ∃ W0, w.alloc (.cells Tryd.zeroCells86 86) = W0 := ⟨_, rfl⟩
  have hb0 : Below w.heap.size w W0 := by rw [← hW0]; exact below_alloc _ _
  have ha0 : ArrAt W0 w.heap.size 65 [] := by
    rw [← hW0]
    exact ⟨Tryd.zeroCells86, heap_alloc_new _ _, by decide +kernel, rfl, fun j hj => by simp at hj⟩
  rw [hW0]
  have HA := Lib.hid ha0
  clear hW0 ha0 HH
  go_loopw [1, 13] (fun x i wr => ∃ (m k : Nat) (ds : LX.Bs), x = .int .u64 m ∧ i = .int .i64 k ∧ m ≤ 4294967295 ∧ 50 ≤ k ∧ k ≤ 65 ∧ Hid (LX.dig 16 u = LX.dig 16 m ++ ds) ∧ ArrAt wr w.heap.size k ds ∧ Below w.heap.size w wr) (fun x _ _ => (intOf x).toNat)
  case atStart => exact ⟨u, 65, [], rfl, rfl, h1, by omega, by omega, by show _ = _; simp, HA.out, hb0⟩
  case round =>
    obtain ⟨m, k, ds, rfl, rfl, hm, hk1, hk2, hq, ha, hbl⟩ := hrel
    have hlen : (LX.dig 16 m).length + ds.length ≤ 8 := by
      have := congrArg List.length hq.out
      rw [List.length_append] at this
      have := LX.dig_len16 u h1
      omega
    have hkd : k + ds.length = 65 := by obtain ⟨_, _, _, h3, _⟩ := ha; exact h3
    have hfr := ha.free
    obtain ⟨v, hv⟩ := ha.cell (k - 1) (by omega)
    by_cases h16 : 16 ≤ m
    · have hd1 := dig_len_ge (m / 16)
      have hdb := LX.dig_big (b := 16) (n := m) (by omega) (by decide)
      have hand := and15 m hm
      have hd2 : Hid (LX.dig 16 u = LX.dig 16 (m / 16) ++ LX.hexc (m % 16) :: ds) := by show _ = _; rw [hq.out, hdb]; simp
      have hx := d36_at (m % 16) (by omega)
      have HX := Lib.hid hx
      have hlen2 := congrArg List.length hdb
      rw [List.length_append, List.length_singleton] at hlen2
      have hk3 : 57 ≤ k - 1 := by omega
      clear hdb hx hlen2
      go_wp2
      go_roundw
      case rel => exact ⟨m / 16, k - 1, LX.hexc (m % 16) :: ds, by go_num, by go_num, by omega, by omega, by omega, hd2, by rw [← HX.out]; exact ha.put (by omega) _, Below.setCell hbl (by simp) _⟩
      case measure => simp [intOf]; omega
    · have hds := LX.dig_small (b := 16) (n := m) (by omega)
      have hd2 : Hid (LX.dig 16 u = LX.hexc m :: ds) := by show _ = _; rw [hq.out, hds]; rfl
      have hx := d36_at m (by omega)
      have HX := Lib.hid hx
      have hlen2 := congrArg List.length hd2.out
      rw [List.length_cons] at hlen2
      have hk3 : 50 ≤ k - 1 := by have := LX.dig_len16 u h1; omega
      have ha2 : ArrAt (wr.setCell ⟨w.heap.size, k - 1, none⟩ (.int .u8 (((⟨#[48, 49, 50, 51, 52, 53, 54, 55, 56, 57, 97, 98, 99, 100, 101, 102, 103, 104, 105, 106, 107, 108, 109, 110, 111, 112, 113, 114, 115, 116, 117, 118, 119, 120, 121, 122]⟩ : ByteArray)[m]'(Nat.lt_of_lt_of_le (show m < 16 by omega) (by decide))).toNat : Int))) w.heap.size (k - 1) (LX.hexc m :: ds) := by rw [HX.out]; exact ha.put (by omega) _
      have HA2 := Lib.hid ha2
      clear ha2
      clear hds hx hlen2
      have hnl : (LX.hexc m :: ds).length + k = 66 := by simp; omega
      have hsl := fun W => slice_at W w.heap.size k (LX.hexc m :: ds).length (by omega) hnl (by simp)
      have hcv := run_convert_bytes_back (P := Tryd.prog) _ 37 9 5 ⟨w.heap.size, k - 1, none⟩ (LX.hexc m :: ds).length (LX.hexc m :: ds) Tryd.underlying37 Tryd.underlying5 Tryd.underlying9 (fun j hj => by rw [add_plain, HA2.out.read j hj, List.getD_eq_getElem?_getD, List.getElem?_eq_getElem hj]; rfl)
      obtain ⟨n, hn⟩ : ∃ n, (LX.hexc m :: ds).length = n := ⟨_, rfl⟩
      rw [hn] at hsl hcv
      obtain ⟨B, hB⟩ : ∃ B, LX.hexc m :: ds = B := ⟨_, rfl⟩
      rw [hB] at hcv
      have HB := Lib.hid (hd2.out.trans hB)
      clear hnl hn hB hd2
      go_wp2
      go_ret2
      exact ⟨by rw [HB.out]; rfl, Below.setCell hbl (by simp) _⟩
end Go.Proofs.YtpcepfoebkmbgaaDoor
