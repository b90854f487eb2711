/- Bytes, Unpack and Words of package word, each by its contract. -/
import Derived.Test.YtmhifelkihcidaaWPut
import Derived.Test.YtmhifelkihcidaaWPMath
namespace Go.Proofs.Ytmhifelkihcidaa
open Go.RowKit WM
set_option linter.unusedVariables false

theorem setAt_u8 {w : World} {base : Nat} {e : TypeId} {g cap : Nat} {xs : List Int} {n : Nat} (h : w.ownsRow base e 1 (.slice (some ⟨g, 0, none⟩) n cap) n (xs.map (.int .u8))) (j : Nat) (u : Int) :
    (w.setCell ⟨g, j, none⟩ (.int .u8 u)).ownsRow base e 1 (.slice (some ⟨g, 0, none⟩) n cap) n ((xs.set j u).map (.int .u8)) := by
  rw [List.map_set]; exact (h.stored j _).1
theorem cell_u8 {w : World} {base : Nat} {e : TypeId} {g cap : Nat} {xs : List Int} {n : Nat} (h : w.ownsRow base e 1 (.slice (some ⟨g, 0, none⟩) n cap) n (xs.map (.int .u8))) (j : Nat) (hj : j < n) : w.cell? ⟨g, j, none⟩ = some (.int .u8 (xs.getD j 0)) := by
  rw [h.cellAt j (by omega)]
  have := h.1; simp at this
  simp [this, hj]
/-- a list of bytes in new memory, and an error -/
def GivesB2 (ys : List Int) (er : Int) (w : World) (e : Ending) (w' : World) : Prop := ∃ v, e = .returned (.tuple #[v, .int .i64 er]) ∧ Rd .u8 w' v ys ∧ Below w.heap.size w w'
/-- a string and an error -/
def GivesS2 (s : ByteArray) (er : Int) (w : World) (e : Ending) (w' : World) : Prop := e = .returned (.tuple #[.string s, .int .i64 er]) ∧ Below w.heap.size w w'
set_option maxHeartbeats 400000 in
theorem Bytes_form (v : Value) (n : Int) (g : Bool) (hb : ¬ IsBits n) (w : World) :
    Calls Try.prog 35 #[v, .agg #[.int .i64 n, .bool g]] w (GivesB2 [] 3 w) := by
  go_enter Try.func35, Try.ntmps35
  go_wp2_with (first | (go_at_call 17; refine (Valid_no _ _ hb _).mono ?_; rintro e w1 ⟨rfl, hb1⟩))
  go_ret2
  exact ⟨_, rfl, Rd.nil _ _, (by repeat (first | exact Below.refl _ _ | exact below_alloc _ _ | refine below_back (by assumption) ?_ | refine Below.drew ?_ | refine below_drewN ?_ _ | refine Below.alloc ?_ (by first | exact Nat.le_refl _ | (simp; done) | (simp; omega)) _))⟩
set_option maxHeartbeats 1600000 in
theorem Bytes_ok (v : Value) (xs : List Int) (n : Int) (g : Bool) (hb : IsBits n) (hm : xs.length ≤ 2147483647) (w : World) (hv : Rd .i64 w v xs) :
    Calls Try.prog 35 #[v, .agg #[.int .i64 n, .bool g]] w (GivesB2 (byt n g xs 0 (xs.length * nb n)) 0 w) := by
  obtain ⟨a, cap, rfl, hl1, h1⟩ := hv
  obtain ⟨i0, hi, hz0, hz1, hz2⟩ := info_parts info_u8
  have hmc := mul_cast hb xs.length hm
  have HB : Hid (∀ k, k < xs.length * nb n → wi n k < xs.length) := fun k hk => wi_lt hb hk
  generalize hM : xs.length * nb n = M at *
  clear hM
  obtain ⟨hmc1, hM⟩ := hmc
  have HMC : Hid (wrap64 ((xs.length : Int) * (nb n : Int)) = ((M : Nat) : Int)) := hmc1
  clear hmc1
  go_enter Try.func35, Try.ntmps35
  go_wp2_with (first | (go_at_call 17; refine (Valid_yes _ _ hb _).mono ?_; rintro e w1 ⟨rfl, hb1⟩; have hf0 : w1.cell? ⟨w.heap.size, 0, none⟩ = some (.int .i64 n) := (hb1.cell (p := ⟨w.heap.size, 0, none⟩) (by simp)).trans ((World.cell?_alloc_at _ _ _ _ rfl).trans rfl); have hf1 : w1.cell? ⟨w.heap.size, 1, none⟩ = some (.bool g) := (hb1.cell (p := ⟨w.heap.size, 1, none⟩) (by simp)).trans ((World.cell?_alloc_at _ _ _ _ rfl).trans rfl)) | (go_at_call 66; refine (wordBytes_c _ _ hb _).mono ?_; rintro e w2 ⟨rfl, hb2⟩; have hg0 : w2.cell? ⟨w.heap.size, 0, none⟩ = some (.int .i64 n) := (hb2.cell (p := ⟨w.heap.size, 0, none⟩) (World.block_lt_of_cell? _ _ hf0)).trans hf0; have hg1 : w2.cell? ⟨w.heap.size, 1, none⟩ = some (.bool g) := (hb2.cell (p := ⟨w.heap.size, 1, none⟩) (World.block_lt_of_cell? _ _ hf1)).trans hf1) | (at_make; refine wpList_make_full _ rfl _ _ 46 rfl (w.heap.size + 1) 5 i0 (.int .u8 0) 1 Try.underlying46 hi hz0 hz1 .i64 .i64 _ _ M rfl rfl HMC HMC ?_ ?_ ?_ ?_))
  · rw [hz2]; omega
  · unfold maxLen; omega
  · have h1s := hb1.size; have h2s := hb2.size; simp at h1s; omega
  · intro w3 hown3 hgrow3
    rw [toList_madeCells_one] at hown3
    have hs1 : w.heap.size < w1.heap.size := by have := hb1.size; simp at this; omega
    have hs2 := hb2.size
    have hs3 := hgrow3.size
    have h2 : Below w.heap.size w w2 := (by repeat (first | exact Below.refl _ _ | exact below_alloc _ _ | refine below_back (by assumption) ?_ | refine Below.drew ?_ | refine below_drewN ?_ _ | refine Below.alloc ?_ (by first | exact Nat.le_refl _ | (simp; done) | (simp; omega)) _))
    have hnx3 : Below w.heap.size w w3 := h2.grown hgrow3 (by omega) (by simp)
    have hh0 : w3.cell? ⟨w.heap.size, 0, none⟩ = some (.int .i64 n) := hgrow3.cell hg0 (by simp)
    have hh1 : w3.cell? ⟨w.heap.size, 1, none⟩ = some (.bool g) := hgrow3.cell hg1 (by simp)
    generalize hw2 : w2.heap.size = W at *
    clear hw2 hgrow3 h2 hg0 hg1 hf0 hf1 hb1 hb2 hi hz0 hz1 hz2 HMC
    go_wp2_with fail
    have H1 := Lib.hid h1
    have HL := Lib.hid hl1
    clear h1 hl1
    go_loopw [19] (fun i wr => ∃ k : Nat, k ≤ M ∧ i = .int .i64 k ∧ wr.ownsRow (w.heap.size + 1) 5 1 (.slice (some ⟨W, 0, none⟩) M M) M ((bz n g xs 0 M k).map (.int .u8)) ∧ wr.cell? ⟨w.heap.size, 0, none⟩ = some (.int .i64 n) ∧ wr.cell? ⟨w.heap.size, 1, none⟩ = some (.bool g) ∧ Below w.heap.size w wr ∧ W < wr.heap.size) (fun i _ => M - (intOf i).toNat)
    case atStart => exact ⟨0, Nat.zero_le _, rfl, by rw [bz_0]; simpa using hown3, hh0, hh1, hnx3, hown3.lt W rfl |>.2⟩
    case round =>
      obtain ⟨k, hk, rfl, hownr, hr0, hr1, hnx, hsz⟩ := hrel
      clear hown3 hh0 hh1 hnx3
      by_cases hlt : k < M
      · have hwi := HB.out k hlt
        rcases H1.out with h | ⟨b, off, rfl, hc⟩
        · rw [h] at hwi; simp at hwi
        · have hbB := World.block_lt_of_cell? w _ (hc _ hwi)
          have q1 := (hnx.cell (p := ⟨b, off + wi n k, none⟩) hbB).trans (hc _ hwi)
          clear hc
          go_wp2_with (go_at_call 59; refine (byteAt_c b off cap xs k n g hb (by omega) hwi (by omega) _ q1).mono ?_; rintro e w4 ⟨rfl, hb4⟩; have hown4 := own_keep hownr hb4; have q3 := hown4.frozenAt k; have q4 := cell_u8 hown4 k hlt)
          go_roundw
          case rel =>
            have hset := setAt_u8 hown4 k (gb n g xs k)
            have hgs := (hown4.stored k (.int .u8 (gb n g xs k))).2
            refine ⟨k + 1, by omega, by go_num, ?_, ?_, ?_, ?_, ?_⟩
            · rw [← bz_succ]; exact hset
            · exact hgs.cell ((hb4.cell (p := ⟨w.heap.size, 0, none⟩) (by show w.heap.size < _; omega)).trans hr0) (by simp; omega)
            · exact hgs.cell ((hb4.cell (p := ⟨w.heap.size, 1, none⟩) (by show w.heap.size < _; omega)).trans hr1) (by simp; omega)
            · exact (hnx.trans (hb4.mono (by omega))).setCell (by show w.heap.size ≤ W; omega) _
            · have := hb4.size; simp; omega
          case measure => simp [intOf]; omega
      · obtain rfl : k = M := by omega
        clear hlt hk
        go_wp2
        go_ret2
        rw [bz_all] at hownr
        exact ⟨_, rfl, Rd.of_owns hownr (by rw [byt_length]; omega), hnx⟩
set_option maxHeartbeats 400000 in
theorem Unpack_form (v : Value) (n : Int) (g : Bool) (hb : ¬ IsBits n) (w : World) :
    Calls Try.prog 33 #[v, .agg #[.int .i64 n, .bool g]] w (GivesS2 ⟨#[]⟩ 3 w) := by
  go_enter Try.func33, Try.ntmps33
  go_wp2_with (first | (go_at_call 17; refine (Valid_no _ _ hb _).mono ?_; rintro e w1 ⟨rfl, hb1⟩))
  go_ret2
  exact ⟨rfl, (by repeat (first | exact Below.refl _ _ | exact below_alloc _ _ | refine below_back (by assumption) ?_ | refine Below.drew ?_ | refine below_drewN ?_ _ | refine Below.alloc ?_ (by first | exact Nat.le_refl _ | (simp; done) | (simp; omega)) _))⟩
set_option maxHeartbeats 400000 in
theorem Unpack_empty (a : Option Addr) (cap : Nat) (n : Int) (g : Bool) (hb : IsBits n) (w : World) :
    Calls Try.prog 33 #[.slice a 0 cap, .agg #[.int .i64 n, .bool g]] w (GivesS2 ⟨#[]⟩ 7 w) := by
  go_enter Try.func33, Try.ntmps33
  go_wp2_with (first | (go_at_call 17; refine (Valid_yes _ _ hb _).mono ?_; rintro e w1 ⟨rfl, hb1⟩; have hf0 : w1.cell? ⟨w.heap.size, 0, none⟩ = some (.int .i64 n) := (hb1.cell (p := ⟨w.heap.size, 0, none⟩) (by simp)).trans ((World.cell?_alloc_at _ _ _ _ rfl).trans rfl); have hf1 : w1.cell? ⟨w.heap.size, 1, none⟩ = some (.bool g) := (hb1.cell (p := ⟨w.heap.size, 1, none⟩) (by simp)).trans ((World.cell?_alloc_at _ _ _ _ rfl).trans rfl)))
  go_ret2
  exact ⟨rfl, (by repeat (first | exact Below.refl _ _ | exact below_alloc _ _ | refine below_back (by assumption) ?_ | refine Below.drew ?_ | refine below_drewN ?_ _ | refine Below.alloc ?_ (by first | exact Nat.le_refl _ | (simp; done) | (simp; omega)) _))⟩
set_option maxHeartbeats 1600000 in
theorem Unpack_short (v : Value) (xs : List Int) (n : Int) (g : Bool) (hb : IsBits n) (hm : xs.length ≤ 2147483647) (hne : 0 < xs.length) (hr : ((xs.length * nb n : Nat) : Int) ≤ gb n g xs 0) (w : World) (hv : Rd .i64 w v xs) :
    Calls Try.prog 33 #[v, .agg #[.int .i64 n, .bool g]] w (GivesS2 ⟨#[]⟩ 7 w) := by
  obtain ⟨a, cap, rfl, hl1, h1⟩ := hv
  obtain ⟨i0, hi, hz0, hz1, hz2⟩ := info_parts info_u8
  have hmc := mul_cast hb xs.length hm
  have HB : Hid (∀ k, k < xs.length * nb n → wi n k < xs.length) := fun k hk => wi_lt hb hk
  have hnb := nb_bd hb
  have hpos : ¬ (xs.length : Int) = 0 := by omega
  have HWI : Hid (wi n 0 < xs.length) := HB.out 0 (Nat.mul_pos hne (by omega))
  rcases h1 with h | ⟨b, off, rfl, hc⟩
  · rw [h] at hne; simp at hne
  have HC0 := Lib.hid (hc _ HWI.out)
  have hbB := World.block_lt_of_cell? w _ HC0.out
  have HC := Lib.hid hc
  have HL := Lib.hid hl1
  clear hc hl1
  generalize hM : xs.length * nb n = M at *
  clear hM
  obtain ⟨hmc1, hM⟩ := hmc
  obtain ⟨N, hN⟩ : ∃ N : Nat, gb n g xs 0 = (N : Int) := ⟨_, (Int.toNat_of_nonneg (gb_bd n g xs 0).1).symm⟩
  have hN2 := gb_bd n g xs 0
  rw [hN] at hN2 hr
  have HN := Lib.hid hN
  clear hN
  go_enter Try.func33, Try.ntmps33
  go_wp2_with (first | (go_at_call 17; refine (Valid_yes _ _ hb _).mono ?_; rintro e w1 ⟨rfl, hb1⟩; have hf0 : w1.cell? ⟨w.heap.size, 0, none⟩ = some (.int .i64 n) := (hb1.cell (p := ⟨w.heap.size, 0, none⟩) (by simp)).trans ((World.cell?_alloc_at _ _ _ _ rfl).trans rfl); have hf1 : w1.cell? ⟨w.heap.size, 1, none⟩ = some (.bool g) := (hb1.cell (p := ⟨w.heap.size, 1, none⟩) (by simp)).trans ((World.cell?_alloc_at _ _ _ _ rfl).trans rfl)) | (go_at_call 59; refine (byteAt_c b off cap xs 0 n g hb (by omega) HWI.out (by omega) _ ((below_then (below_alloc w _) hb1).cell (p := ⟨b, off + wi n 0, none⟩) hbB |>.trans HC0.out)).mono ?_; rintro e w2 ⟨rfl, hb2⟩; have hg0 : w2.cell? ⟨w.heap.size, 0, none⟩ = some (.int .i64 n) := (hb2.cell (p := ⟨w.heap.size, 0, none⟩) (World.block_lt_of_cell? _ _ hf0)).trans hf0; have hg1 : w2.cell? ⟨w.heap.size, 1, none⟩ = some (.bool g) := (hb2.cell (p := ⟨w.heap.size, 1, none⟩) (World.block_lt_of_cell? _ _ hf1)).trans hf1) | (at_make; refine wpList_make_full _ rfl _ _ 46 rfl (w.heap.size + 1) 5 i0 (.int .u8 0) 1 Try.underlying46 hi hz0 hz1 .u8 .u8 _ _ N rfl rfl HN HN ?_ ?_ ?_ ?_))
  · rw [hz2]; omega
  · unfold maxLen; omega
  · have h1s := hb1.size; have h2s := hb2.size; simp at h1s; omega
  · intro w3 hown3 hgrow3
    rw [toList_madeCells_one] at hown3
    have hs1 : w.heap.size < w1.heap.size := by have := hb1.size; simp at this; omega
    have hs2 := hb2.size
    have hs3 := hgrow3.size
    have h2 : Below w.heap.size w w2 := (by repeat (first | exact Below.refl _ _ | exact below_alloc _ _ | refine below_back (by assumption) ?_ | refine Below.drew ?_ | refine below_drewN ?_ _ | refine Below.alloc ?_ (by first | exact Nat.le_refl _ | (simp; done) | (simp; omega)) _))
    have hnx3 : Below w.heap.size w w3 := h2.grown hgrow3 (by omega) (by simp)
    have hh0 : w3.cell? ⟨w.heap.size, 0, none⟩ = some (.int .i64 n) := hgrow3.cell hg0 (by simp)
    have hh1 : w3.cell? ⟨w.heap.size, 1, none⟩ = some (.bool g) := hgrow3.cell hg1 (by simp)
    generalize hw2 : w2.heap.size = W at *
    clear hw2 hgrow3 h2 hg0 hg1 hf0 hf1 hb1 hb2 hi hz0 hz1 hz2 hbB
    go_wp2_with (first | (go_at_call 66; refine (wordBytes_c _ _ hb _).mono ?_; rintro e w4 ⟨rfl, hb4⟩))
    go_ret2
    exact ⟨rfl, hnx3.trans (hb4.mono (by omega))⟩
set_option maxHeartbeats 1600000 in
theorem Unpack_ok (v : Value) (xs : List Int) (n : Int) (g : Bool) (hb : IsBits n) (hm : xs.length ≤ 2147483647) (hne : 0 < xs.length) (hr : ¬ ((xs.length * nb n : Nat) : Int) ≤ gb n g xs 0) (w : World) (hv : Rd .i64 w v xs) :
    Calls Try.prog 33 #[v, .agg #[.int .i64 n, .bool g]] w (GivesS2 (strOfNums (byt n g xs 1 (gb n g xs 0).toNat)) 0 w) := by
  obtain ⟨a, cap, rfl, hl1, h1⟩ := hv
  obtain ⟨i0, hi, hz0, hz1, hz2⟩ := info_parts info_u8
  have hmc := mul_cast hb xs.length hm
  have HB : Hid (∀ k, k < xs.length * nb n → wi n k < xs.length) := fun k hk => wi_lt hb hk
  have hnb := nb_bd hb
  have hpos : ¬ (xs.length : Int) = 0 := by omega
  have HWI : Hid (wi n 0 < xs.length) := HB.out 0 (Nat.mul_pos hne (by omega))
  rcases h1 with h | ⟨b, off, rfl, hc⟩
  · rw [h] at hne; simp at hne
  have HC0 := Lib.hid (hc _ HWI.out)
  have hbB := World.block_lt_of_cell? w _ HC0.out
  have HC := Lib.hid hc
  have HL := Lib.hid hl1
  clear hc hl1
  generalize hM : xs.length * nb n = M at *
  clear hM
  obtain ⟨hmc1, hM⟩ := hmc
  obtain ⟨N, hN⟩ : ∃ N : Nat, gb n g xs 0 = (N : Int) := ⟨_, (Int.toNat_of_nonneg (gb_bd n g xs 0).1).symm⟩
  have hN2 := gb_bd n g xs 0
  rw [hN] at hN2 hr
  have HN := Lib.hid hN
  clear hN
  have HN3 : Hid ((gb n g xs 0).toNat = N) := by show (gb n g xs 0).toNat = N; rw [HN.out]; rfl
  go_enter Try.func33, Try.ntmps33
  go_wp2_with (first | (go_at_call 17; refine (Valid_yes _ _ hb _).mono ?_; rintro e w1 ⟨rfl, hb1⟩; have hf0 : w1.cell? ⟨w.heap.size, 0, none⟩ = some (.int .i64 n) := (hb1.cell (p := ⟨w.heap.size, 0, none⟩) (by simp)).trans ((World.cell?_alloc_at _ _ _ _ rfl).trans rfl); have hf1 : w1.cell? ⟨w.heap.size, 1, none⟩ = some (.bool g) := (hb1.cell (p := ⟨w.heap.size, 1, none⟩) (by simp)).trans ((World.cell?_alloc_at _ _ _ _ rfl).trans rfl)) | (go_at_call 59; refine (byteAt_c b off cap xs 0 n g hb (by omega) HWI.out (by omega) _ ((below_then (below_alloc w _) hb1).cell (p := ⟨b, off + wi n 0, none⟩) hbB |>.trans HC0.out)).mono ?_; rintro e w2 ⟨rfl, hb2⟩; have hg0 : w2.cell? ⟨w.heap.size, 0, none⟩ = some (.int .i64 n) := (hb2.cell (p := ⟨w.heap.size, 0, none⟩) (World.block_lt_of_cell? _ _ hf0)).trans hf0; have hg1 : w2.cell? ⟨w.heap.size, 1, none⟩ = some (.bool g) := (hb2.cell (p := ⟨w.heap.size, 1, none⟩) (World.block_lt_of_cell? _ _ hf1)).trans hf1) | (at_make; refine wpList_make_full _ rfl _ _ 46 rfl (w.heap.size + 1) 5 i0 (.int .u8 0) 1 Try.underlying46 hi hz0 hz1 .u8 .u8 _ _ N rfl rfl HN HN ?_ ?_ ?_ ?_))
  · rw [hz2]; omega
  · unfold maxLen; omega
  · have h1s := hb1.size; have h2s := hb2.size; simp at h1s; omega
  · intro w3 hown3 hgrow3
    rw [toList_madeCells_one] at hown3
    have hs1 : w.heap.size < w1.heap.size := by have := hb1.size; simp at this; omega
    have hs2 := hb2.size
    have hs3 := hgrow3.size
    have h2 : Below w.heap.size w w2 := (by repeat (first | exact Below.refl _ _ | exact below_alloc _ _ | refine below_back (by assumption) ?_ | refine Below.drew ?_ | refine below_drewN ?_ _ | refine Below.alloc ?_ (by first | exact Nat.le_refl _ | (simp; done) | (simp; omega)) _))
    have hnx3 : Below w.heap.size w w3 := h2.grown hgrow3 (by omega) (by simp)
    have hh0 : w3.cell? ⟨w.heap.size, 0, none⟩ = some (.int .i64 n) := hgrow3.cell hg0 (by simp)
    have hh1 : w3.cell? ⟨w.heap.size, 1, none⟩ = some (.bool g) := hgrow3.cell hg1 (by simp)
    generalize hw2 : w2.heap.size = W at *
    clear hw2 hgrow3 h2 hg0 hg1 hf0 hf1 hb1 hb2 hi hz0 hz1 hz2 hbB
    go_wp2_with (first | (go_at_call 66; refine (wordBytes_c _ _ hb _).mono ?_; rintro e w4 ⟨rfl, hb4⟩))
    have hown4 := own_keep hown3 hb4
    have hg0 := (hb4.cell (p := ⟨w.heap.size, 0, none⟩) (World.block_lt_of_cell? _ _ hh0)).trans hh0
    have hg1 := (hb4.cell (p := ⟨w.heap.size, 1, none⟩) (World.block_lt_of_cell? _ _ hh1)).trans hh1
    have hnx4 : Below w.heap.size w w4 := hnx3.trans (hb4.mono (by omega))
    clear hown3 hh0 hh1 hnx3 hb4
    have hd : decide (M ≤ N) = false := decide_eq_false (by omega)
    rw [hmc1, hd]
    clear hd hmc1 hr
    go_loopw [28] (fun i wr => ∃ k : Nat, k ≤ N ∧ i = .int .i64 k ∧ wr.ownsRow (w.heap.size + 1) 5 1 (.slice (some ⟨W, 0, none⟩) N N) N ((bz n g xs 1 N k).map (.int .u8)) ∧ wr.cell? ⟨w.heap.size, 0, none⟩ = some (.int .i64 n) ∧ wr.cell? ⟨w.heap.size, 1, none⟩ = some (.bool g) ∧ Below w.heap.size w wr ∧ W < wr.heap.size) (fun i _ => N - (intOf i).toNat)
    case atStart => exact ⟨0, Nat.zero_le _, rfl, by rw [bz_0]; simpa using hown4, hg0, hg1, hnx4, hown4.lt W rfl |>.2⟩
    case round =>
      obtain ⟨k, hk, rfl, hownr, hr0, hr1, hnx, hsz⟩ := hrel
      clear hown4 hg0 hg1 hnx4
      by_cases hlt : k < N
      · have hwi := HB.out (k + 1) (by omega)
        have hbB := World.block_lt_of_cell? w _ (HC.out _ hwi)
        have q1 := (hnx.cell (p := ⟨b, off + wi n (k + 1), none⟩) hbB).trans (HC.out _ hwi)
        go_wp2_with (go_at_call 59; refine (byteAt_c b off cap xs (k + 1) n g hb (by omega) hwi (by omega) _ q1).mono ?_; rintro e w5 ⟨rfl, hb5⟩; have hown5 := own_keep hownr hb5; have q3 := hown5.frozenAt k; have q4 := cell_u8 hown5 k hlt)
        go_roundw
        case rel =>
          have hset := setAt_u8 hown5 k (gb n g xs (k + 1))
          have hgs := (hown5.stored k (.int .u8 (gb n g xs (k + 1)))).2
          refine ⟨k + 1, by omega, by go_num, ?_, ?_, ?_, ?_, ?_⟩
          · rw [← bz_succ]; exact hset
          · exact hgs.cell ((hb5.cell (p := ⟨w.heap.size, 0, none⟩) (by show w.heap.size < _; omega)).trans hr0) (by simp; omega)
          · exact hgs.cell ((hb5.cell (p := ⟨w.heap.size, 1, none⟩) (by show w.heap.size < _; omega)).trans hr1) (by simp; omega)
          · exact (hnx.trans (hb5.mono (by omega))).setCell (by show w.heap.size ≤ W; omega) _
          · have := hb5.size; simp; omega
        case measure => simp [intOf]; omega
      · obtain rfl : k = N := by omega
        clear hlt hk
        rw [bz_all] at hownr
        have hconv := run_convert_bytes_arg (P := Try.prog) wr 46 5 Try.underlying46 Try.underlying5 W 0 k k (byt n g xs 1 k) (byt_length _ _ _ _ _) (fun i hi => by rw [Nat.zero_add]; exact cell_u8 hownr i hi) 9 Try.underlying9
        go_wp2
        go_ret2
        rw [HN3.out]
        exact ⟨rfl, hnx⟩
set_option maxHeartbeats 400000 in
theorem Words_form (v : Value) (n : Int) (g : Bool) (hb : ¬ IsBits n) (w : World) :
    Calls Try.prog 38 #[v, .agg #[.int .i64 n, .bool g]] w (GivesInts2 [] 3 w) := by
  go_enter Try.func38, Try.ntmps38
  go_wp2_with (first | (go_at_call 17; refine (Valid_no _ _ hb _).mono ?_; rintro e w1 ⟨rfl, hb1⟩))
  go_ret2
  exact ⟨_, rfl, Rd.nil _ _, (by repeat (first | exact Below.refl _ _ | exact below_alloc _ _ | refine below_back (by assumption) ?_ | refine Below.drew ?_ | refine below_drewN ?_ _ | refine Below.alloc ?_ (by first | exact Nat.le_refl _ | (simp; done) | (simp; omega)) _))⟩
set_option maxHeartbeats 400000 in
theorem Words_odd (a : Option Addr) (len cap : Nat) (n : Int) (g : Bool) (hb : IsBits n) (hm : len ≤ 2147483647) (hr : ¬ len % nb n = 0) (w : World) :
    Calls Try.prog 38 #[.slice a len cap, .agg #[.int .i64 n, .bool g]] w (GivesInts2 [] 3 w) := by
  have hnb := nb_bd hb
  have hr1 : (len : Int).tmod (nb n : Int) = ((len % nb n : Nat) : Int) := by rw [Int.tmod_eq_emod_of_nonneg (by omega), ← Int.natCast_emod]
  have hr2 : (len : Int) % (nb n : Int) = ((len % nb n : Nat) : Int) := by rw [← Int.natCast_emod]
  generalize len % nb n = q at *
  have hnb0 : ¬ nb n = 0 := by omega
  have hq : ¬ (q : Int) = 0 := by omega
  go_enter Try.func38, Try.ntmps38
  go_wp2_with (first | (go_at_call 17; refine (Valid_yes _ _ hb _).mono ?_; rintro e w1 ⟨rfl, hb1⟩; have hf0 : w1.cell? ⟨w.heap.size, 0, none⟩ = some (.int .i64 n) := (hb1.cell (p := ⟨w.heap.size, 0, none⟩) (by simp)).trans ((World.cell?_alloc_at _ _ _ _ rfl).trans rfl); have hf1 : w1.cell? ⟨w.heap.size, 1, none⟩ = some (.bool g) := (hb1.cell (p := ⟨w.heap.size, 1, none⟩) (by simp)).trans ((World.cell?_alloc_at _ _ _ _ rfl).trans rfl)) | (go_at_call 66; refine (wordBytes_c _ _ hb _).mono ?_; rintro e w2 ⟨rfl, hb2⟩; have hg0 : w2.cell? ⟨w.heap.size, 0, none⟩ = some (.int .i64 n) := (hb2.cell (p := ⟨w.heap.size, 0, none⟩) (World.block_lt_of_cell? _ _ hf0)).trans hf0; have hg1 : w2.cell? ⟨w.heap.size, 1, none⟩ = some (.bool g) := (hb2.cell (p := ⟨w.heap.size, 1, none⟩) (World.block_lt_of_cell? _ _ hf1)).trans hf1))
  go_ret2
  exact ⟨_, rfl, Rd.nil _ _, (by repeat (first | exact Below.refl _ _ | exact below_alloc _ _ | refine below_back (by assumption) ?_ | refine Below.drew ?_ | refine below_drewN ?_ _ | refine Below.alloc ?_ (by first | exact Nat.le_refl _ | (simp; done) | (simp; omega)) _))⟩
set_option maxHeartbeats 400000 in
theorem Words_ok (v : Value) (bs : List Int) (n : Int) (g : Bool) (hb : IsBits n) (hl : bs.length ≤ 2147483647) (hr : bs.length % nb n = 0) (hbd : ∀ j, 0 ≤ bs.getD j 0 ∧ bs.getD j 0 ≤ 255) (w : World) (hv : Rd .u8 w v bs) :
    Calls Try.prog 38 #[v, .agg #[.int .i64 n, .bool g]] w (GivesInts2 (jn n g bs) 0 w) := by
  have HV := Lib.hid hv
  obtain ⟨a, cap, rfl, hl1, h1⟩ := hv
  clear h1 hl1
  have hnb := nb_bd hb
  have hr1 : (bs.length : Int).tmod (nb n : Int) = ((0 : Nat) : Int) := by rw [Int.tmod_eq_emod_of_nonneg (by omega), ← Int.natCast_emod, hr]
  have hr2 : (bs.length : Int) % (nb n : Int) = ((0 : Nat) : Int) := by rw [← Int.natCast_emod, hr]
  have hnb0 : ¬ nb n = 0 := by omega
  have HBD := Lib.hid hbd
  clear hr hbd
  go_enter Try.func38, Try.ntmps38
  go_wp2_with (first | (go_at_call 17; refine (Valid_yes _ _ hb _).mono ?_; rintro e w1 ⟨rfl, hb1⟩; have hf0 : w1.cell? ⟨w.heap.size, 0, none⟩ = some (.int .i64 n) := (hb1.cell (p := ⟨w.heap.size, 0, none⟩) (by simp)).trans ((World.cell?_alloc_at _ _ _ _ rfl).trans rfl); have hf1 : w1.cell? ⟨w.heap.size, 1, none⟩ = some (.bool g) := (hb1.cell (p := ⟨w.heap.size, 1, none⟩) (by simp)).trans ((World.cell?_alloc_at _ _ _ _ rfl).trans rfl)) | (go_at_call 66; refine (wordBytes_c _ _ hb _).mono ?_; rintro e w2 ⟨rfl, hb2⟩; have hg0 : w2.cell? ⟨w.heap.size, 0, none⟩ = some (.int .i64 n) := (hb2.cell (p := ⟨w.heap.size, 0, none⟩) (World.block_lt_of_cell? _ _ hf0)).trans hf0; have hg1 : w2.cell? ⟨w.heap.size, 1, none⟩ = some (.bool g) := (hb2.cell (p := ⟨w.heap.size, 1, none⟩) (World.block_lt_of_cell? _ _ hf1)).trans hf1) | (go_at_call 65; refine (join_c _ bs n g hb hl HBD.out _ ((HV.out.keep (below_alloc w _)).keep (below_then hb1 hb2))).mono ?_; rintro e w3 ⟨v3, rfl, hr3, hb3⟩))
  go_ret2
  exact ⟨_, rfl, hr3, (by repeat (first | exact Below.refl _ _ | exact below_alloc _ _ | refine below_back (by assumption) ?_ | refine Below.drew ?_ | refine below_drewN ?_ _ | refine Below.alloc ?_ (by first | exact Nat.le_refl _ | (simp; done) | (simp; omega)) _))⟩
end Go.Proofs.Ytmhifelkihcidaa
