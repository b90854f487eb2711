/- Words of the reference by its contract. -/
import Derived.Test.YtmhifelkihcidaaWRpb
namespace Go.Proofs.Ytmhifelkihcidaa
open Go.RowKit WM
set_option linter.unusedVariables false

set_option maxHeartbeats 400000 in
theorem refWords_form (v : Value) (n : Int) (g : Bool) (hb : ¬ IsBits n) (w : World) :
    Calls Try.prog 39 #[v, .agg #[.int .i64 n, .bool g]] w (GivesInts2 [] 3 w) := by
  go_enter Try.func39, Try.ntmps39
  go_wp2_with (first | (go_at_call 42; refine (refValid_no _ _ hb _).mono ?_; rintro e w1 ⟨rfl, hb1⟩))
  go_ret2
  exact ⟨_, rfl, Rd.nil _ _, (by repeat (first | exact Below.refl _ _ | exact below_alloc _ _ | refine below_back (by assumption) ?_ | refine Below.drew ?_ | refine below_drewN ?_ _ | refine Below.alloc ?_ (by first | exact Nat.le_refl _ | (simp; done) | (simp; omega)) _))⟩
set_option maxHeartbeats 400000 in
theorem refWords_odd (a : Option Addr) (len cap : Nat) (n : Int) (g : Bool) (hb : IsBits n) (hm : len ≤ 2147483647) (hr : ¬ len % nb n = 0) (w : World) :
    Calls Try.prog 39 #[.slice a len cap, .agg #[.int .i64 n, .bool g]] w (GivesInts2 [] 3 w) := by
  have hnb := nb_bd hb
  have hr1 : (len : Int).tmod (nb n : Int) = ((len % nb n : Nat) : Int) := by rw [Int.tmod_eq_emod_of_nonneg (by omega), ← Int.natCast_emod]
  have hr2 : (len : Int) % (nb n : Int) = ((len % nb n : Nat) : Int) := by rw [← Int.natCast_emod]
  generalize len % nb n = q at *
  have hnb0 : ¬ nb n = 0 := by omega
  have hq : (0 : Int) < (q : Int) := by omega
  go_enter Try.func39, Try.ntmps39
  go_wp2_with (first | (go_at_call 42; refine (refValid_yes _ _ hb _).mono ?_; rintro e w1 ⟨rfl, hb1⟩; have hf0 : w1.cell? ⟨w.heap.size, 0, none⟩ = some (.int .i64 n) := (hb1.cell (p := ⟨w.heap.size, 0, none⟩) (by simp)).trans ((World.cell?_alloc_at _ _ _ _ rfl).trans rfl); have hf1 : w1.cell? ⟨w.heap.size, 1, none⟩ = some (.bool g) := (hb1.cell (p := ⟨w.heap.size, 1, none⟩) (by simp)).trans ((World.cell?_alloc_at _ _ _ _ rfl).trans rfl)) | (go_at_call 60; refine (refsize_c _ _ hb _).mono ?_; rintro e w2 ⟨rfl, hb2⟩; have hg0 : w2.cell? ⟨w.heap.size, 0, none⟩ = some (.int .i64 n) := (hb2.cell (p := ⟨w.heap.size, 0, none⟩) (World.block_lt_of_cell? _ _ hf0)).trans hf0; have hg1 : w2.cell? ⟨w.heap.size, 1, none⟩ = some (.bool g) := (hb2.cell (p := ⟨w.heap.size, 1, none⟩) (World.block_lt_of_cell? _ _ hf1)).trans hf1))
  go_ret2
  exact ⟨_, rfl, Rd.nil _ _, (by repeat (first | exact Below.refl _ _ | exact below_alloc _ _ | refine below_back (by assumption) ?_ | refine Below.drew ?_ | refine below_drewN ?_ _ | refine Below.alloc ?_ (by first | exact Nat.le_refl _ | (simp; done) | (simp; omega)) _))⟩
set_option maxHeartbeats 3200000 in
theorem refWords_ok (v : Value) (bs : List Int) (n : Int) (g : Bool) (hb : IsBits n) (hm : bs.length ≤ 1000000) (Q : Nat) (hq : bs.length = Q * nb n) (hbd : ∀ j, 0 ≤ bs.getD j 0 ∧ bs.getD j 0 ≤ 255) (w : World) (hv : Rd .u8 w v bs) :
    Calls Try.prog 39 #[v, .agg #[.int .i64 n, .bool g]] w (GivesInts2 (jwl n g bs Q) 0 w) := by
  obtain ⟨a, cap, rfl, hl1, h1⟩ := hv
  obtain ⟨i0, hii, hz0, hz1, hz2⟩ := info_parts info_int
  have hI := Lib.hid (And.intro hii (And.intro hz0 (And.intro hz1 hz2)))
  have hnb := nb_bd hb
  have H1 := Lib.hid h1
  have hr : bs.length % nb n = 0 := by rw [hq]; exact Nat.mul_mod_left _ _
  have hr1 : (bs.length : Int).tmod (nb n : Int) = ((0 : Nat) : Int) := by rw [Int.tmod_eq_emod_of_nonneg (by omega), ← Int.natCast_emod, hr]
  have hr2 : (bs.length : Int) % (nb n : Int) = ((0 : Nat) : Int) := by rw [← Int.natCast_emod, hr]
  have hQ : Q ≤ 1000000 := by have : Q * 1 ≤ Q * nb n := Nat.mul_le_mul (Nat.le_refl _) (by omega); omega
  obtain ⟨m, hmx⟩ : ∃ m, m = bs.length := ⟨_, rfl⟩
  rw [← hmx] at hm hr1 hr2 hq ⊢
  have HM : Hid (m = bs.length) := hmx
  have HQ := Lib.hid hq
  have HBD := Lib.hid hbd
  clear h1 hl1 hii hz0 hz1 hz2 hmx hr hq hbd
  have hnb0 : ¬ nb n = 0 := by omega
  go_enter Try.func39, Try.ntmps39
  go_wp2_with (first | (go_at_call 42; refine (refValid_yes _ _ hb _).mono ?_; rintro e w1 ⟨rfl, hb1⟩; have hf0 : w1.cell? ⟨w.heap.size, 0, none⟩ = some (.int .i64 n) := (hb1.cell (p := ⟨w.heap.size, 0, none⟩) (by simp)).trans ((World.cell?_alloc_at _ _ _ _ rfl).trans rfl); have hf1 : w1.cell? ⟨w.heap.size, 1, none⟩ = some (.bool g) := (hb1.cell (p := ⟨w.heap.size, 1, none⟩) (by simp)).trans ((World.cell?_alloc_at _ _ _ _ rfl).trans rfl)) | (go_at_call 60; refine (refsize_c _ _ hb _).mono ?_; rintro e w2 ⟨rfl, hb2⟩; have hg0 : w2.cell? ⟨w.heap.size, 0, none⟩ = some (.int .i64 n) := (hb2.cell (p := ⟨w.heap.size, 0, none⟩) (World.block_lt_of_cell? _ _ hf0)).trans hf0; have hg1 : w2.cell? ⟨w.heap.size, 1, none⟩ = some (.bool g) := (hb2.cell (p := ⟨w.heap.size, 1, none⟩) (World.block_lt_of_cell? _ _ hf1)).trans hf1))
  have h2 : Below w.heap.size w w2 := (by repeat (first | exact Below.refl _ _ | exact below_alloc _ _ | refine below_back (by assumption) ?_ | refine Below.drew ?_ | refine below_drewN ?_ _ | refine Below.alloc ?_ (by first | exact Nat.le_refl _ | (simp; done) | (simp; omega)) _))
  have hs1 : w.heap.size < w2.heap.size := by have h1s := hb1.size; have h2s := hb2.size; simp at h1s; omega
  clear hb1 hb2 hf0 hf1
  go_loopw [6, 7] (fun vo iv wr => ∃ c : Nat, c ≤ Q ∧ iv = .int .i64 ((c * nb n : Nat) : Int) ∧ wr.ownsRow (w.heap.size + 1) 3 1 vo c ((jwl n g bs c).map (.int .i64)) ∧ wr.cell? ⟨w.heap.size, 0, none⟩ = some (.int .i64 n) ∧ wr.cell? ⟨w.heap.size, 1, none⟩ = some (.bool g) ∧ Below w.heap.size w wr ∧ w.heap.size < wr.heap.size) (fun _ iv _ => m - (intOf iv).toNat)
  case atStart => exact ⟨0, Nat.zero_le _, by rw [Nat.zero_mul]; rfl, World.ownsRow_nil _ _ _ _, hg0, hg1, h2, hs1⟩
  case round =>
    obtain ⟨c, hc, rfl, hownr, hr0, hr1', hnx, hsz⟩ := hrel
    clear h2 hg0 hg1 hs1
    by_cases hlt : c < Q
    · rcases H1.out with h | ⟨b, off, rfl, hcl⟩
      · have h1 := HM.out; rw [h] at h1; have h2 := HQ.out; simp at h1; rw [h1] at h2; have : 1 * 1 ≤ Q * nb n := Nat.mul_le_mul (by omega) (by omega); omega
      have hPm : c * nb n + nb n ≤ m := by rw [HQ.out, ← Nat.succ_mul]; exact Nat.mul_le_mul (by omega) (Nat.le_refl _)
      have HCH : Hid (∀ j, j < nb n → (chunk n bs c).take (j + 1) = (chunk n bs c).take j ++ [bs.getD (c * nb n + j) 0]) := fun j hj => chunk_take n bs c j hj
      have HSUC : Hid ((c + 1) * nb n = c * nb n + nb n) := Nat.succ_mul _ _
      have HCL := Lib.hid hcl
      clear hcl
      generalize hP : c * nb n = P at *
      clear hP
      have hPm0 : (P : Int) < (m : Int) := by omega
      obtain ⟨W0, hW0⟩ : ∃ W0, W0 = wr := ⟨_, rfl⟩
      subst hW0
      go_wp2_with fail
      go_loopw [8, 9] (fun vl jv wq => ∃ j : Nat, j ≤ nb n ∧ jv = .int .i64 j ∧ wq.ownsRow W0.heap.size 3 1 vl j (((chunk n bs c).take j).map (.int .i64)) ∧ Below W0.heap.size W0 wq) (fun _ jv _ => nb n - (intOf jv).toNat)
      case atStart => exact ⟨0, Nat.zero_le _, rfl, World.ownsRow_nil _ _ _ _, Below.refl _ _⟩
      case round =>
        obtain ⟨j, hj, rfl, hownj, hbq⟩ := hrel
        have c0 := (hbq.cell (p := ⟨w.heap.size, 0, none⟩) hsz).trans hr0
        have c1 := (hbq.cell (p := ⟨w.heap.size, 1, none⟩) hsz).trans hr1'
        have hsq := hbq.size
        by_cases hltj : j < nb n
        · have HS := Lib.hid (HCH.out j hltj)
          obtain ⟨T, hT⟩ : ∃ T, T = P + j := ⟨_, rfl⟩
          rw [← hT] at HS
          have hTm : T < m := by omega
          have hidx : (P : Int) + (j : Int) = (T : Int) := by omega
          clear hT
          have hbB := World.block_lt_of_cell? w _ (HCL.out T (by have := HM.out; omega))
          have q0 := (hnx.cell (p := ⟨b, off + T, none⟩) hbB).trans (HCL.out T (by have := HM.out; omega))
          have q1 := (hbq.cell (p := ⟨b, off + T, none⟩) (World.block_lt_of_cell? _ _ q0)).trans q0
          have hy := HBD.out T
          generalize hyy : bs.getD T 0 = y at *
          clear hyy q0
          have hix0 : (0 : Int) ≤ (T : Int) := by omega
          have hix1 : (T : Int) < (m : Int) := by omega
          go_wp2_with (first | (go_at_call 60; refine (refsize_c _ _ hb _).mono ?_; rintro e w5 ⟨rfl, hb5⟩; have hown5 := own_keep hownj hb5; have q5 := (hb5.cell (p := ⟨b, off + T, none⟩) (World.block_lt_of_cell? _ _ q1)).trans q1) | (at_builtin; refine wpList_append_one rfl (.tmp 35) (.tmp 43) 37 rfl W0.heap.size 3 i0 .i64 8 Try.underlying37 hI.out (by decide) _ _ _ rfl hown5 _ rfl ?_ ?_ ?_))
          · omega
          · have := hb5.size; omega
          intro v6 w6 hown6 hcl6 hbe6 hsz6 hob6
          have kb := hbe6 _ _ (below_then hbq hb5) (Nat.le_refl _)
          clear hcl6 hbe6 hob6 hown5 hownj hb5 hbq c0 c1 q1 q5
          go_wp2
          go_roundw
          case rel => exact ⟨j + 1, by omega, by go_num, by rw [HS.out, List.map_append, List.map_take]; exact hown6, kb⟩
          case measure => simp [intOf]; omega
        · obtain rfl : j = nb n := by omega
          have hownk := own_keep hownr hbq
          have hnxq := hnx.trans (hbq.mono (by omega))
          rw [List.take_of_length_le (by rw [chunk_length]; exact Nat.le_refl _)] at hownj
          clear hltj hj hr0 hr1' hownr hnx hbq HCL
          go_wp2_with (first
            | (go_at_call 60; refine (refsize_c _ _ hb _).mono ?_; rintro e w5 ⟨rfl, hb5⟩; have hown5 := own_keep hownk hb5; have hrd5 : Rd .i64 w5 u8 (chunk n bs c) := Rd.of_owns (own_keep hownj hb5) (by rw [chunk_length]; omega); have d0 := (hb5.cell (p := ⟨w.heap.size, 0, none⟩) (World.block_lt_of_cell? _ _ c0)).trans c0; have d1 := (hb5.cell (p := ⟨w.heap.size, 1, none⟩) (World.block_lt_of_cell? _ _ c1)).trans c1)
            | (go_at_call 64; refine (refjoin_c _ (chunk n bs c) n g hb (by rw [chunk_length]; omega) (by rw [chunk_length]; omega) (chunk_bd HBD.out n c) _ hrd5).mono ?_; rintro e w6 ⟨rfl, hb6⟩; have hnx5 := hnxq.trans (hb5.mono (by omega)); have hs5 := hb5.size; have hown6 := own_keep hown5 hb6; have e0 := (hb6.cell (p := ⟨w.heap.size, 0, none⟩) (World.block_lt_of_cell? _ _ d0)).trans d0; have e1 := (hb6.cell (p := ⟨w.heap.size, 1, none⟩) (World.block_lt_of_cell? _ _ d1)).trans d1)
            | (at_builtin; refine wpList_append_one rfl (.tmp 45) (.tmp 49) 37 rfl (w.heap.size + 1) 3 i0 .i64 8 Try.underlying37 hI.out (by decide) _ _ _ rfl hown6 _ rfl ?_ ?_ ?_))
          · omega
          · have h1s := hb6.size; have h2s := hb5.size; omega
          intro v7 w7 hown7 hcl7 hbe7 hsz7 hob7
          have hs6 := hb6.size
          have hs5 := hb5.size
          have hnx5 := hnxq.trans (hb5.mono (by omega))
          have k0 := hcl7 _ _ e0 (fun e => by have := (hown6.lt _ e.symm).1; simp at this; omega)
          have k1 := hcl7 _ _ e1 (fun e => by have := (hown6.lt _ e.symm).1; simp at this; omega)
          have kb := hbe7 _ _ (hnx5.trans (hb6.mono (by omega))) (by omega)
          clear hcl7 hbe7 hob7 hown6 hown5 hb6 d0 d1 e0 e1 hnx5 hrd5 hb5 c0 c1 hownk hownj hnxq
          go_wp2_with (first
            | (go_at_call 60; refine (refsize_c _ _ hb _).mono ?_; rintro e w8 ⟨rfl, hb8⟩; have hown8 := own_keep hown7 hb8; have d0 := (hb8.cell (p := ⟨w.heap.size, 0, none⟩) (World.block_lt_of_cell? _ _ k0)).trans k0; have d1 := (hb8.cell (p := ⟨w.heap.size, 1, none⟩) (World.block_lt_of_cell? _ _ k1)).trans k1))
          have hs8 := hb8.size
          go_roundw
          case rel => exact ⟨c + 1, by omega, by rw [HSUC.out]; go_num, by rw [jwl_succ, List.map_append]; exact hown8, d0, d1, kb.trans (hb8.mono (by omega)), by omega⟩
          case measure => simp [intOf]; omega
    · obtain rfl : c = Q := by omega
      have hP : ¬ ((c * nb n : Nat) : Int) < (m : Int) := by rw [← HQ.out]; omega
      clear hlt hc
      go_wp2
      go_ret2
      exact ⟨_, rfl, Rd.of_owns hownr (by rw [jwl_length]; omega), hnx⟩
end Go.Proofs.Ytmhifelkihcidaa
