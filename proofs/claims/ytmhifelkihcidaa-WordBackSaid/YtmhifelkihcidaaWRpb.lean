/- Bytes, Unpack and Words of the reference, each by its contract. -/
import Derived.Test.YtmhifelkihcidaaWPb
import Derived.Test.YtmhifelkihcidaaWRput
import Derived.Test.YtmhifelkihcidaaAppOne
import Derived.Deep.RegionHeld3
namespace Go.Proofs.Ytmhifelkihcidaa
open Go.RowKit WM
set_option linter.unusedVariables false

set_option maxHeartbeats 400000 in
theorem refBytes_form (v : Value) (n : Int) (g : Bool) (hb : ¬ IsBits n) (w : World) :
    Calls Try.prog 36 #[v, .agg #[.int .i64 n, .bool g]] w (GivesB2 [] 3 w) := by
  go_enter Try.func36, Try.ntmps36
  go_wp2_with (first | (go_at_call 42; refine (refValid_no _ _ hb _).mono ?_; rintro e w1 ⟨rfl, hb1⟩))
  go_ret2
  exact ⟨_, rfl, Rd.nil _ _, (by repeat (first | exact Below.refl _ _ | exact below_alloc _ _ | refine below_back (by assumption) ?_ | refine Below.drew ?_ | refine below_drewN ?_ _ | refine Below.alloc ?_ (by first | exact Nat.le_refl _ | (simp; done) | (simp; omega)) _))⟩
set_option maxHeartbeats 3200000 in
theorem refBytes_ok (v : Value) (xs : List Int) (n : Int) (g : Bool) (hb : IsBits n) (hm : xs.length ≤ 1000000) (w : World) (hv : Rd .i64 w v xs) :
    Calls Try.prog 36 #[v, .agg #[.int .i64 n, .bool g]] w (GivesB2 (byt n g xs 0 (xs.length * nb n)) 0 w) := by
  obtain ⟨a, cap, rfl, hl1, h1⟩ := hv
  obtain ⟨i0, hii, hz0, hz1, hz2⟩ := info_parts info_u8
  have hI := Lib.hid (And.intro hii (And.intro hz0 (And.intro hz1 hz2)))
  have hnb := nb_bd hb
  have H1 := Lib.hid h1
  obtain ⟨m, hmx⟩ : ∃ m, m = xs.length := ⟨_, rfl⟩
  rw [← hmx] at hm ⊢
  have HM : Hid (m = xs.length) := hmx
  clear h1 hl1 hii hz0 hz1 hz2 hmx
  go_enter Try.func36, Try.ntmps36
  go_wp2_with (first | (go_at_call 42; refine (refValid_yes _ _ hb _).mono ?_; rintro e w1 ⟨rfl, hb1⟩; have hf0 : w1.cell? ⟨w.heap.size, 0, none⟩ = some (.int .i64 n) := (hb1.cell (p := ⟨w.heap.size, 0, none⟩) (by simp)).trans ((World.cell?_alloc_at _ _ _ _ rfl).trans rfl); have hf1 : w1.cell? ⟨w.heap.size, 1, none⟩ = some (.bool g) := (hb1.cell (p := ⟨w.heap.size, 1, none⟩) (by simp)).trans ((World.cell?_alloc_at _ _ _ _ rfl).trans rfl)))
  have h2 : Below w.heap.size w w1 := (by repeat (first | exact Below.refl _ _ | exact below_alloc _ _ | refine below_back (by assumption) ?_ | refine Below.drew ?_ | refine below_drewN ?_ _ | refine Below.alloc ?_ (by first | exact Nat.le_refl _ | (simp; done) | (simp; omega)) _))
  have hs1 : w.heap.size < w1.heap.size := by have := hb1.size; simp at this; omega
  clear hb1
  go_loopw [6, 7] (fun vo iv wr => ∃ i : Nat, i ≤ m ∧ iv = .int .i64 i ∧ wr.ownsRow (w.heap.size + 1) 5 1 vo (i * nb n) ((byt n g xs 0 (i * nb n)).map (.int .u8)) ∧ wr.cell? ⟨w.heap.size, 0, none⟩ = some (.int .i64 n) ∧ wr.cell? ⟨w.heap.size, 1, none⟩ = some (.bool g) ∧ Below w.heap.size w wr ∧ w.heap.size < wr.heap.size) (fun _ iv _ => m - (intOf iv).toNat)
  case atStart => exact ⟨0, Nat.zero_le _, rfl, by rw [Nat.zero_mul]; exact World.ownsRow_nil _ _ _ _, hf0, hf1, h2, hs1⟩
  case round =>
    obtain ⟨i, hi, rfl, hownr, hr0, hr1, hnx, hsz⟩ := hrel
    clear h2 hf0 hf1 hs1
    by_cases hlt : i < m
    · rcases H1.out with h | ⟨b, off, rfl, hc⟩
      · have := HM.out; rw [h] at this; simp at this; omega
      have hbB := World.block_lt_of_cell? w _ (hc i (by have := HM.out; omega))
      have q1 := (hnx.cell (p := ⟨b, off + i, none⟩) hbB).trans (hc i (by have := HM.out; omega))
      clear hc
      have hi0 : (0 : Int) ≤ (i : Int) := by omega
      have hi1 : (i : Int) < (m : Int) := by omega
      have HSG : Hid (∀ j, j < nb n → (spl n g (xs.getD i 0)).getD j 0 = gb n g xs (i * nb n + j + 0)) := fun j hj => spl_gb hb g xs i j hj
      have hpb : i * nb n ≤ 1000000 * 4 := Nat.mul_le_mul (by omega) (by omega)
      generalize hP : i * nb n = P at *
      have HP := Lib.hid hP
      clear hP
      generalize hx : xs.getD i 0 = x at *
      clear hx
      go_wp2_with fail
      go_region_held3 (fun w' => w'.cell? ⟨w.heap.size, 0, none⟩ = some (.int .i64 n) ∧ w'.cell? ⟨w.heap.size, 1, none⟩ = some (.bool g) ∧ w'.cell? ⟨b, off + i, none⟩ = some (.int .i64 x))
        (first | (go_split_ands; refine ⟨?_, ?_, ?_⟩; all_goals (refine (hb3.cell (World.block_lt_of_cell? _ _ (by assumption))).trans (by assumption))) | go_keep)
        ((first | (go_at_call 61; refine (split_c _ _ _ hb _).mono ?_; rintro e w3 ⟨b3, rfl, hb3le, hown3, hb3⟩)))
      have hnx3 : Below w.heap.size w w3 := (hnx.drew).trans (hb3.mono (by show w.heap.size ≤ wr.heap.size; omega))
      have hsp3 : b3 < w3.heap.size := (hown3.lt b3 rfl).2
      have hob := hownr.lt
      have hownk := own_keep (w := wr.drew) hownr.drew hb3
      have hbw : w.heap.size < b3 := by have : wr.heap.size ≤ b3 := hb3le; omega
      have hsz3 : w.heap.size < w3.heap.size := by omega
      have h30 := (hb3.cell (p := ⟨w.heap.size, 0, none⟩) (by show w.heap.size < wr.heap.size; omega)).trans hr0
      have h31 := (hb3.cell (p := ⟨w.heap.size, 1, none⟩) (by show w.heap.size < wr.heap.size; omega)).trans hr1
      have hcl3 : ∀ j, j < nb n → w3.cell? ⟨b3, j, none⟩ = some (.int .i64 ((spl n g x).getD j 0)) := fun j hj => own_cell hown3 j hj
      have hne3 : u6.ownBlock ≠ some b3 := fun e => by have := (hob b3 e).2; have h2 : wr.heap.size ≤ b3 := hb3le; omega
      clear hownr hr0 hr1 q1 hnx hb3 hob hown3 hb3le
      go_wp2_with fail
      go_loopw [6, 9] (fun vo jv wq => ∃ j : Nat, j ≤ nb n ∧ jv = .int .i64 j ∧ wq.ownsRow (w.heap.size + 1) 5 1 vo (P + j) ((byt n g xs 0 (P + j)).map (.int .u8)) ∧ vo.ownBlock ≠ some b3 ∧ b3 < wq.heap.size ∧ (∀ j, j < nb n → wq.cell? ⟨b3, j, none⟩ = some (.int .i64 ((spl n g x).getD j 0))) ∧ wq.cell? ⟨w.heap.size, 0, none⟩ = some (.int .i64 n) ∧ wq.cell? ⟨w.heap.size, 1, none⟩ = some (.bool g) ∧ Below w.heap.size w wq ∧ w.heap.size < wq.heap.size) (fun _ jv _ => nb n - (intOf jv).toNat)
      case atStart => exact ⟨0, Nat.zero_le _, rfl, hownk, hne3, hsp3, hcl3, h30, h31, hnx3, hsz3⟩
      case round =>
        obtain ⟨j, hj, rfl, hownj, hnej, hbj, hclj, hj0, hj1, hnxj, hszj⟩ := hrel
        clear hownk hne3 hsp3 hcl3 h30 h31 hnx3 hsz3
        by_cases hltj : j < nb n
        · have hy := spl_bd hb g x j
          have q2 := hclj j hltj
          have HS := Lib.hid (HSG.out j hltj)
          have hjx : (0 : Int) ≤ (j : Int) := by omega
          have hjy : (j : Int) < (nb n : Int) := by omega
          have HCJ := Lib.hid hclj
          clear hclj
          generalize hyy : (spl n g x).getD j 0 = y at *
          clear hyy
          have hy1 : y % 256 = y := Int.emod_eq_of_lt (by omega) (by omega)
          go_wp2_with (first | (at_builtin; refine wpList_append_one rfl (.tmp 31) (.tmp 37) 46 rfl (w.heap.size + 1) 5 i0 .u8 1 Try.underlying46 hI.out (by decide) _ _ _ rfl hownj _ rfl ?_ ?_ ?_))
          · omega
          · omega
          intro v6 w6 hown6 hcl6 hbe6 hsz6 hob6
          have hl6 := hnxj.size
          have k0 := hcl6 _ _ hj0 (fun e => by have := (hownj.lt _ e.symm).1; simp at this; omega)
          have k1 := hcl6 _ _ hj1 (fun e => by have := (hownj.lt _ e.symm).1; simp at this; omega)
          have kc : ∀ q, q < nb n → w6.cell? ⟨b3, q, none⟩ = some (.int .i64 ((spl n g x).getD q 0)) := fun q hq => hcl6 _ _ (HCJ.out q hq) (fun e => hnej e.symm)
          have kb := hbe6 _ _ hnxj (by omega)
          have ko := hob6 b3 hbj hnej
          clear hcl6 hbe6 hob6 hownj
          go_wp2
          go_roundw
          case rel => exact ⟨j + 1, by omega, by go_num, by rw [← Nat.add_assoc, byt_succ, ← HS.out, List.map_append]; exact hown6, ko, by omega, kc, k0, k1, kb, by omega⟩
          case measure => simp [intOf]; omega
        · obtain rfl : j = nb n := by omega
          clear hltj hj hclj hnej hbj
          go_wp2
          go_roundw
          case rel => exact ⟨i + 1, by omega, by go_num, by rw [Nat.succ_mul, HP.out]; exact hownj, hj0, hj1, hnxj, hszj⟩
          case measure => simp [intOf]; omega
    · obtain rfl : i = m := by omega
      clear hlt hi
      go_wp2
      go_ret2
      exact ⟨_, rfl, Rd.of_owns hownr (by rw [byt_length]; have : i * nb n ≤ 1000000 * 4 := Nat.mul_le_mul (by omega) (by omega); omega), hnx⟩
/-- the string, or the error where the bytes end -/
def GivesU (M : Nat) (N : Int) (s : ByteArray) (w : World) (e : Ending) (w' : World) : Prop := ((M : Int) ≤ N → GivesS2 ⟨#[]⟩ 7 w e w') ∧ (¬ (M : Int) ≤ N → GivesS2 s 0 w e w')
theorem conv_own {w : World} {base : Nat} {v : Value} {n : Nat} {xs : List Int} (h : w.ownsRow base 5 1 v n (xs.map (.int .u8))) :
    (convert 46 9 v).run Try.prog w = .ok (.string (strOfNums xs)) w := by
  have hn : xs.length = n := by have := h.1; simp at this; omega
  rcases h.2 with ⟨rfl, h0⟩ | ⟨g, cap, cur, rfl, hb, hg, _⟩
  · have : xs = [] := List.length_eq_zero_iff.1 (by omega)
    subst this
    exact run_convert_bytes_nil (P := Try.prog) w 46 5 Try.underlying46 Try.underlying5 0 0 9 Try.underlying9
  · exact run_convert_bytes_arg (P := Try.prog) w 46 5 Try.underlying46 Try.underlying5 g 0 n cap xs hn (fun i hi => by rw [Nat.zero_add]; exact cell_u8 h i hi) 9 Try.underlying9
set_option maxHeartbeats 400000 in
theorem refUnpack_form (v : Value) (n : Int) (g : Bool) (hb : ¬ IsBits n) (w : World) :
    Calls Try.prog 34 #[v, .agg #[.int .i64 n, .bool g]] w (GivesS2 ⟨#[]⟩ 3 w) := by
  go_enter Try.func34, Try.ntmps34
  go_wp2_with (first | (go_at_call 42; refine (refValid_no _ _ hb _).mono ?_; rintro e w1 ⟨rfl, hb1⟩))
  go_ret2
  exact ⟨rfl, (by repeat (first | exact Below.refl _ _ | exact below_alloc _ _ | refine below_back (by assumption) ?_ | refine Below.drew ?_ | refine below_drewN ?_ _ | refine Below.alloc ?_ (by first | exact Nat.le_refl _ | (simp; done) | (simp; omega)) _))⟩
set_option maxHeartbeats 400000 in
theorem refUnpack_empty (a : Option Addr) (cap : Nat) (n : Int) (g : Bool) (hb : IsBits n) (w : World) :
    Calls Try.prog 34 #[.slice a 0 cap, .agg #[.int .i64 n, .bool g]] w (GivesS2 ⟨#[]⟩ 7 w) := by
  go_enter Try.func34, Try.ntmps34
  go_wp2_with (first | (go_at_call 42; refine (refValid_yes _ _ hb _).mono ?_; rintro e w1 ⟨rfl, hb1⟩; have hf0 : w1.cell? ⟨w.heap.size, 0, none⟩ = some (.int .i64 n) := (hb1.cell (p := ⟨w.heap.size, 0, none⟩) (by simp)).trans ((World.cell?_alloc_at _ _ _ _ rfl).trans rfl); have hf1 : w1.cell? ⟨w.heap.size, 1, none⟩ = some (.bool g) := (hb1.cell (p := ⟨w.heap.size, 1, none⟩) (by simp)).trans ((World.cell?_alloc_at _ _ _ _ rfl).trans rfl)) | (go_at_call 27; refine (refGetByte_out _ _ _ 0 _ _ hb (by omega) (Nat.zero_le _) _).mono ?_; rintro e w2 ⟨rfl, hb2⟩))
  go_ret2
  exact ⟨rfl, (by repeat (first | exact Below.refl _ _ | exact below_alloc _ _ | refine below_back (by assumption) ?_ | refine Below.drew ?_ | refine below_drewN ?_ _ | refine Below.alloc ?_ (by first | exact Nat.le_refl _ | (simp; done) | (simp; omega)) _))⟩
set_option maxHeartbeats 1600000 in
theorem refUnpack_some (v : Value) (xs : List Int) (n : Int) (g : Bool) (hb : IsBits n) (hm : xs.length ≤ 2147483647) (hne : 0 < xs.length) (w : World) (hv : Rd .i64 w v xs) :
    Calls Try.prog 34 #[v, .agg #[.int .i64 n, .bool g]] w (GivesU (xs.length * nb n) (gb n g xs 0) (strOfNums (byt n g xs 1 (gb n g xs 0).toNat)) w) := by
  obtain ⟨a, cap, rfl, hl1, h1⟩ := hv
  obtain ⟨i0, hi, hz0, hz1, hz2⟩ := info_parts info_u8
  have hI := Lib.hid (And.intro hi (And.intro hz0 (And.intro hz1 hz2)))
  have hmc := (mul_cast hb xs.length hm).2
  have hnb := nb_bd hb
  have HB : Hid (∀ k, k < xs.length * nb n → wi n k < xs.length) := fun k hk => wi_lt hb hk
  have HBO : Hid (xs.length ≤ wi n (xs.length * nb n)) := by show xs.length ≤ xs.length * nb n / nb n; rw [Nat.mul_div_cancel _ (by omega)]; exact Nat.le_refl _
  have hMpos : 0 < xs.length * nb n := Nat.mul_pos hne (by omega)
  have HWI : Hid (wi n 0 < xs.length) := HB.out 0 hMpos
  rcases h1 with h | ⟨b, off, rfl, hc⟩
  · rw [h] at hne; simp at hne
  have HC0 := Lib.hid (hc _ HWI.out)
  have hbB := World.block_lt_of_cell? w _ HC0.out
  have HC := Lib.hid hc
  have HL := Lib.hid hl1
  clear hc hl1 hi hz0 hz1 hz2
  generalize hM : xs.length * nb n = M at *
  clear hM
  obtain ⟨N, hN⟩ : ∃ N : Nat, gb n g xs 0 = (N : Int) := ⟨_, (Int.toNat_of_nonneg (gb_bd n g xs 0).1).symm⟩
  have hN2 := gb_bd n g xs 0
  rw [hN] at hN2
  have HN := Lib.hid hN
  have HN3 : Hid ((gb n g xs 0).toNat = N) := by show (gb n g xs 0).toNat = N; rw [HN.out]; rfl
  rw [HN3.out, hN]
  clear hN
  go_enter Try.func34, Try.ntmps34
  go_wp2_with (first | (go_at_call 42; refine (refValid_yes _ _ hb _).mono ?_; rintro e w1 ⟨rfl, hb1⟩; have hf0 : w1.cell? ⟨w.heap.size, 0, none⟩ = some (.int .i64 n) := (hb1.cell (p := ⟨w.heap.size, 0, none⟩) (by simp)).trans ((World.cell?_alloc_at _ _ _ _ rfl).trans rfl); have hf1 : w1.cell? ⟨w.heap.size, 1, none⟩ = some (.bool g) := (hb1.cell (p := ⟨w.heap.size, 1, none⟩) (by simp)).trans ((World.cell?_alloc_at _ _ _ _ rfl).trans rfl)) | (go_at_call 27; refine (refGetByte_in b off cap xs 0 n g hb (by omega) HWI.out (by omega) _ ((below_then (below_alloc w _) hb1).cell (p := ⟨b, off + wi n 0, none⟩) hbB |>.trans HC0.out)).mono ?_; rintro e w2 ⟨rfl, hb2⟩; have hg0 : w2.cell? ⟨w.heap.size, 0, none⟩ = some (.int .i64 n) := (hb2.cell (p := ⟨w.heap.size, 0, none⟩) (World.block_lt_of_cell? _ _ hf0)).trans hf0; have hg1 : w2.cell? ⟨w.heap.size, 1, none⟩ = some (.bool g) := (hb2.cell (p := ⟨w.heap.size, 1, none⟩) (World.block_lt_of_cell? _ _ hf1)).trans hf1; rw [HN.out]))
  have hnx2 : Below w.heap.size w w2 := (by repeat (first | exact Below.refl _ _ | exact below_alloc _ _ | refine below_back (by assumption) ?_ | refine Below.drew ?_ | refine below_drewN ?_ _ | refine Below.alloc ?_ (by first | exact Nat.le_refl _ | (simp; done) | (simp; omega)) _))
  have hs2 : w.heap.size < w2.heap.size := by have h1s := hb1.size; have h2s := hb2.size; simp at h1s; omega
  clear hb1 hb2 hf0 hf1 hbB
  go_loopw [8, 9] (fun vo iv wr => ∃ k : Nat, k ≤ N ∧ k + 1 ≤ M ∧ iv = .int .i64 ((k + 1 : Nat) : Int) ∧ wr.ownsRow (w.heap.size + 1) 5 1 vo k ((byt n g xs 1 k).map (.int .u8)) ∧ wr.cell? ⟨w.heap.size, 0, none⟩ = some (.int .i64 n) ∧ wr.cell? ⟨w.heap.size, 1, none⟩ = some (.bool g) ∧ Below w.heap.size w wr ∧ w.heap.size < wr.heap.size) (fun _ iv _ => N + 1 - (intOf iv).toNat)
  case atStart => exact ⟨0, Nat.zero_le _, hMpos, rfl, World.ownsRow_nil _ _ _ _, hg0, hg1, hnx2, hs2⟩
  case round =>
    obtain ⟨k, hk, hkM, rfl, hownr, hr0, hr1, hnx, hsz⟩ := hrel
    clear hg0 hg1 hnx2 hs2
    by_cases hlt : k < N
    · have hc1 : ((k + 1 : Nat) : Int) ≤ (N : Int) := by omega
      by_cases hkm : k + 1 < M
      · have hwi := HB.out (k + 1) hkm
        have hbB := World.block_lt_of_cell? w _ (HC.out _ hwi)
        have q1 := (hnx.cell (p := ⟨b, off + wi n (k + 1), none⟩) hbB).trans (HC.out _ hwi)
        have hy := gb_bd n g xs (k + 1)
        have hy1 : gb n g xs (k + 1) % 256 = gb n g xs (k + 1) := Int.emod_eq_of_lt (by omega) (by omega)
        go_wp2_with (first | (go_at_call 27; refine (refGetByte_in b off cap xs (k + 1) n g hb (by omega) hwi (by omega) _ q1).mono ?_; rintro e w5 ⟨rfl, hb5⟩; have hown5 := own_keep hownr hb5) | (at_builtin; refine wpList_append_one rfl (.tmp 37) (.tmp 40) 46 rfl (w.heap.size + 1) 5 i0 .u8 1 Try.underlying46 hI.out (by decide) _ _ _ rfl hown5 _ rfl ?_ ?_ ?_))
        · omega
        · have := hb5.size; omega
        intro v6 w6 hown6 hcl6 hbe6 hsz6 hob6
        have h50 := (hb5.cell (p := ⟨w.heap.size, 0, none⟩) hsz).trans hr0
        have h51 := (hb5.cell (p := ⟨w.heap.size, 1, none⟩) hsz).trans hr1
        have hs5 := hb5.size
        have k0 := hcl6 _ _ h50 (fun e => by have := (hown5.lt _ e.symm).1; simp at this; omega)
        have k1 := hcl6 _ _ h51 (fun e => by have := (hown5.lt _ e.symm).1; simp at this; omega)
        have kb := hbe6 _ _ (hnx.trans (hb5.mono (by omega))) (by omega)
        clear hcl6 hbe6 hob6 hown5 hownr hb5 h50 h51
        go_wp2
        go_roundw
        case rel => exact ⟨k + 1, by omega, by omega, by go_num, by rw [byt_succ, List.map_append]; exact hown6, k0, k1, kb, by omega⟩
        case measure => simp [intOf]; omega
      · obtain rfl : M = k + 1 := by omega
        go_wp2_with (first | (go_at_call 27; refine (refGetByte_out _ _ _ (k + 1) _ _ hb (by omega) HBO.out _).mono ?_; rintro e w5 ⟨rfl, hb5⟩))
        go_ret2
        exact ⟨fun _ => ⟨rfl, hnx.trans (hb5.mono (by omega))⟩, fun h => absurd (by omega) h⟩
    · obtain rfl : k = N := by omega
      have hc1 : ¬ ((k + 1 : Nat) : Int) ≤ (k : Int) := by omega
      have hconv := conv_own hownr
      go_wp2
      go_ret2
      exact ⟨fun h => absurd h (by omega), fun _ => ⟨rfl, hnx⟩⟩
end Go.Proofs.Ytmhifelkihcidaa
