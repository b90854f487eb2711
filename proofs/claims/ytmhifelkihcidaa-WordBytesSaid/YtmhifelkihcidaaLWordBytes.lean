/- The statement WordBytes holds: the law returns true for all its arguments, and they read behind the call as before; no condition. -/
import Derived.Test.YtmhifelkihcidaaWRput2
import Derived.Test.YtmhifelkihcidaaFrame
namespace Go.Proofs.Ytmhifelkihcidaa.wordBytes
open Go.ChangeShapes Go.WideShapes Go.ChangeAt Go.RowKit Go.Joins WM
open Go.ChangeMaps (open_string shut_string)
set_option linter.unusedVariables false
theorem wi_small {n : Int} (hb : IsBits n) {k m : Nat} (h : wi n k < m) (hm : m ≤ 1000) : k < 140737488355328 := by
  unfold wi at h
  have h2 := nb_bd hb
  rw [Nat.div_lt_iff_lt_mul (by omega)] at h
  have : m * nb n ≤ 1000 * 4 := Nat.mul_le_mul hm h2.2
  omega
set_option maxHeartbeats 1600000 in
theorem walk (a0 : Option Addr) (len0 cap0 : Nat) (z0 : List Int) (a1 : Int) (a2 : Int) (n3 : Int) (g3 : Bool) (w : World) (w0 : IsRow .i64 w a0 len0 cap0 z0) (w1 : (Lit.int .i64 a1).wf = true) (w2 : (Lit.int .i64 a2).wf = true) (w3 : (Lit.int .i64 n3).wf = true) :
    Calls Try.prog 7 #[.slice a0 len0 cap0, .int .i64 a1, .int .i64 a2, .agg #[.int .i64 n3, .bool g3]] w fun e w' => e = .returned (.bool true) ∧ Below w.heap.size w w' := by
  by_cases h300 : 300 < len0
  · go_enter Try.func7, Try.ntmps7
    go_wp2
    go_ret
    exact ⟨rfl, below_alloc _ _⟩
  have h300' : ¬ (300 : Int) < (len0 : Int) := by omega
  have hrd := w0.rd (by omega)
  have hl := w0.len
  have hi63 := wf_i64_bd w1
  clear w0 w1 w2 w3
  have hfl0 : (w.alloc (.cells #[.int .i64 n3, .bool g3] 27)).cell? ⟨w.heap.size, 0, none⟩ = some (.int .i64 n3) := (World.cell?_alloc_at _ _ _ _ rfl).trans rfl
  have hfl1 : (w.alloc (.cells #[.int .i64 n3, .bool g3] 27)).cell? ⟨w.heap.size, 1, none⟩ = some (.bool g3) := (World.cell?_alloc_at _ _ _ _ rfl).trans rfl
  generalize hxs : z0.take len0 = xs at *
  clear hxs
  by_cases hb : IsBits n3
  · by_cases hneg : a1 < 0
    · go_enter Try.func7, Try.ntmps7
      go_wp2_with (first | (go_at_call 26; refine (GetByte_neg _ _ _ _ _ _ hb hneg _).mono ?_; rintro e w1 ⟨rfl, hb1⟩; have hfa := (hb1.cell (p := ⟨w.heap.size, 0, none⟩) (World.block_lt_of_cell? _ _ (by assumption))).trans (by assumption); have hfb := (hb1.cell (p := ⟨w.heap.size, 1, none⟩) (World.block_lt_of_cell? _ _ (by assumption))).trans (by assumption)) | (go_at_call 27; refine (refGetByte_neg _ _ _ _ _ _ hb hneg _).mono ?_; rintro e w2 ⟨rfl, hb2⟩; have hfa := (hb2.cell (p := ⟨w.heap.size, 0, none⟩) (World.block_lt_of_cell? _ _ (by assumption))).trans (by assumption); have hfb := (hb2.cell (p := ⟨w.heap.size, 1, none⟩) (World.block_lt_of_cell? _ _ (by assumption))).trans (by assumption)) | (go_at_call 28; refine (PutByte_neg _ _ _ _ _ _ _ hb hneg _).mono ?_; rintro e w3 ⟨v3, rfl, hr3, hb3⟩; have hfa := (hb3.cell (p := ⟨w.heap.size, 0, none⟩) (World.block_lt_of_cell? _ _ (by assumption))).trans (by assumption); have hfb := (hb3.cell (p := ⟨w.heap.size, 1, none⟩) (World.block_lt_of_cell? _ _ (by assumption))).trans (by assumption)) | (go_at_call 29; refine (refPutByte_neg _ _ _ _ _ _ _ hb hneg _).mono ?_; rintro e w4 ⟨v4, rfl, hr4, hb4⟩; have hfa := (hb4.cell (p := ⟨w.heap.size, 0, none⟩) (World.block_lt_of_cell? _ _ (by assumption))).trans (by assumption); have hfb := (hb4.cell (p := ⟨w.heap.size, 1, none⟩) (World.block_lt_of_cell? _ _ (by assumption))).trans (by assumption)) | (go_at_call 30; refine (EqInts_c _ _ [] [] _ (hr3.keep hb4) hr4).mono ?_; rintro e w5 ⟨rfl, hb5⟩) | (go_at_call 19; refine (awake_c _).mono ?_; rintro e wa ⟨rfl, hba⟩))
      go_ret
      exact ⟨rfl, (by repeat (first | exact Below.refl _ _ | exact below_alloc _ _ | refine below_back (by assumption) ?_ | refine Below.drew ?_ | refine below_drewN ?_ _ | refine Below.alloc ?_ (by first | exact Nat.le_refl _ | (simp; done) | (simp; omega)) _))⟩
    · obtain ⟨k, rfl⟩ := Int.eq_ofNat_of_zero_le (by omega : 0 ≤ a1)
      have hk : k ≤ 9223372036854775807 := by omega
      by_cases hout : len0 ≤ wi n3 k
      · go_enter Try.func7, Try.ntmps7
        go_wp2_with (first | (go_at_call 26; refine (GetByte_out _ _ _ k _ _ hb hk hout _).mono ?_; rintro e w1 ⟨rfl, hb1⟩; have hfa := (hb1.cell (p := ⟨w.heap.size, 0, none⟩) (World.block_lt_of_cell? _ _ (by assumption))).trans (by assumption); have hfb := (hb1.cell (p := ⟨w.heap.size, 1, none⟩) (World.block_lt_of_cell? _ _ (by assumption))).trans (by assumption)) | (go_at_call 27; refine (refGetByte_out _ _ _ k _ _ hb hk hout _).mono ?_; rintro e w2 ⟨rfl, hb2⟩; have hfa := (hb2.cell (p := ⟨w.heap.size, 0, none⟩) (World.block_lt_of_cell? _ _ (by assumption))).trans (by assumption); have hfb := (hb2.cell (p := ⟨w.heap.size, 1, none⟩) (World.block_lt_of_cell? _ _ (by assumption))).trans (by assumption)) | (go_at_call 28; refine (PutByte_out _ _ _ k _ _ _ hb hk hout _).mono ?_; rintro e w3 ⟨v3, rfl, hr3, hb3⟩; have hfa := (hb3.cell (p := ⟨w.heap.size, 0, none⟩) (World.block_lt_of_cell? _ _ (by assumption))).trans (by assumption); have hfb := (hb3.cell (p := ⟨w.heap.size, 1, none⟩) (World.block_lt_of_cell? _ _ (by assumption))).trans (by assumption)) | (go_at_call 29; refine (refPutByte_out _ _ _ k _ _ _ hb hk hout _).mono ?_; rintro e w4 ⟨v4, rfl, hr4, hb4⟩; have hfa := (hb4.cell (p := ⟨w.heap.size, 0, none⟩) (World.block_lt_of_cell? _ _ (by assumption))).trans (by assumption); have hfb := (hb4.cell (p := ⟨w.heap.size, 1, none⟩) (World.block_lt_of_cell? _ _ (by assumption))).trans (by assumption)) | (go_at_call 30; refine (EqInts_c _ _ [] [] _ (hr3.keep hb4) hr4).mono ?_; rintro e w5 ⟨rfl, hb5⟩) | (go_at_call 19; refine (awake_c _).mono ?_; rintro e wa ⟨rfl, hba⟩))
        go_ret
        exact ⟨rfl, (by repeat (first | exact Below.refl _ _ | exact below_alloc _ _ | refine below_back (by assumption) ?_ | refine Below.drew ?_ | refine below_drewN ?_ _ | refine Below.alloc ?_ (by first | exact Nat.le_refl _ | (simp; done) | (simp; omega)) _))⟩
      · obtain ⟨aa, cc, hv, hlen, hc⟩ := hrd
        rcases hc with rfl | ⟨b, off, rfl, hc⟩
        · simp at hl; omega
        · simp at hv
          obtain ⟨rfl, rfl, rfl⟩ := hv
          have hwi : wi n3 k < xs.length := by omega
          have hk2 : k < 140737488355328 := wi_small hb hwi (by omega)
          have hcc := hc (wi n3 k) hwi
          have HC1 := Lib.hid hc
          have HW := Lib.hid (World.block_lt_of_cell? w _ hcc)
          clear hc hcc hlen hl
          go_enter Try.func7, Try.ntmps7
          go_wp2_with (first | (go_at_call 26; refine (GetByte_in b off _ xs k _ _ hb hk2 hwi (by omega) _ (((below_alloc w _).cell (p := ⟨b, off + wi n3 k, none⟩) HW.out).trans (HC1.out _ hwi))).mono ?_; rintro e w1 ⟨rfl, hb1⟩; have hfa := (hb1.cell (p := ⟨w.heap.size, 0, none⟩) (World.block_lt_of_cell? _ _ (by assumption))).trans (by assumption); have hfb := (hb1.cell (p := ⟨w.heap.size, 1, none⟩) (World.block_lt_of_cell? _ _ (by assumption))).trans (by assumption)) | (go_at_call 27; refine (refGetByte_in b off _ xs k _ _ hb hk2 hwi (by omega) _ (((below_then (below_alloc w _) hb1).cell (p := ⟨b, off + wi n3 k, none⟩) HW.out).trans (HC1.out _ hwi))).mono ?_; rintro e w2 ⟨rfl, hb2⟩; have hfa := (hb2.cell (p := ⟨w.heap.size, 0, none⟩) (World.block_lt_of_cell? _ _ (by assumption))).trans (by assumption); have hfb := (hb2.cell (p := ⟨w.heap.size, 1, none⟩) (World.block_lt_of_cell? _ _ (by assumption))).trans (by assumption)) | (go_at_call 28; refine (PutByte_in b off _ xs k _ _ _ hb hk2 hwi (by omega) _ (fun i hi => ((below_then (below_then (below_alloc w _) hb1) hb2).cell (p := ⟨b, off + i, none⟩) HW.out).trans (HC1.out i hi))).mono ?_; rintro e w3 ⟨v3, rfl, hr3, hb3⟩; have hfa := (hb3.cell (p := ⟨w.heap.size, 0, none⟩) (World.block_lt_of_cell? _ _ (by assumption))).trans (by assumption); have hfb := (hb3.cell (p := ⟨w.heap.size, 1, none⟩) (World.block_lt_of_cell? _ _ (by assumption))).trans (by assumption)) | (go_at_call 29; refine (refPutByte_in b off _ xs k _ _ _ hb hk2 hwi (by omega) _ (fun i hi => ((below_then (below_then (below_then (below_alloc w _) hb1) hb2) hb3).cell (p := ⟨b, off + i, none⟩) HW.out).trans (HC1.out i hi))).mono ?_; rintro e w4 ⟨v4, rfl, hr4, hb4⟩; have hfa := (hb4.cell (p := ⟨w.heap.size, 0, none⟩) (World.block_lt_of_cell? _ _ (by assumption))).trans (by assumption); have hfb := (hb4.cell (p := ⟨w.heap.size, 1, none⟩) (World.block_lt_of_cell? _ _ (by assumption))).trans (by assumption)) | (go_at_call 30; refine (EqInts_c _ _ _ _ _ (hr3.keep hb4) hr4).mono ?_; rintro e w5 ⟨rfl, hb5⟩) | (go_at_call 19; refine (awake_c _).mono ?_; rintro e wa ⟨rfl, hba⟩))
          go_ret
          exact ⟨rfl, (by repeat (first | exact Below.refl _ _ | exact below_alloc _ _ | refine below_back (by assumption) ?_ | refine Below.drew ?_ | refine below_drewN ?_ _ | refine Below.alloc ?_ (by first | exact Nat.le_refl _ | (simp; done) | (simp; omega)) _))⟩
  · go_enter Try.func7, Try.ntmps7
    go_wp2_with (first | (go_at_call 26; refine (GetByte_form _ _ _ _ _ _ hb _).mono ?_; rintro e w1 ⟨rfl, hb1⟩; have hfa := (hb1.cell (p := ⟨w.heap.size, 0, none⟩) (World.block_lt_of_cell? _ _ (by assumption))).trans (by assumption); have hfb := (hb1.cell (p := ⟨w.heap.size, 1, none⟩) (World.block_lt_of_cell? _ _ (by assumption))).trans (by assumption)) | (go_at_call 27; refine (refGetByte_form _ _ _ _ _ _ hb _).mono ?_; rintro e w2 ⟨rfl, hb2⟩; have hfa := (hb2.cell (p := ⟨w.heap.size, 0, none⟩) (World.block_lt_of_cell? _ _ (by assumption))).trans (by assumption); have hfb := (hb2.cell (p := ⟨w.heap.size, 1, none⟩) (World.block_lt_of_cell? _ _ (by assumption))).trans (by assumption)) | (go_at_call 28; refine (PutByte_form _ _ _ _ _ _ _ hb _).mono ?_; rintro e w3 ⟨v3, rfl, hr3, hb3⟩; have hfa := (hb3.cell (p := ⟨w.heap.size, 0, none⟩) (World.block_lt_of_cell? _ _ (by assumption))).trans (by assumption); have hfb := (hb3.cell (p := ⟨w.heap.size, 1, none⟩) (World.block_lt_of_cell? _ _ (by assumption))).trans (by assumption)) | (go_at_call 29; refine (refPutByte_form _ _ _ _ _ _ _ hb _).mono ?_; rintro e w4 ⟨v4, rfl, hr4, hb4⟩; have hfa := (hb4.cell (p := ⟨w.heap.size, 0, none⟩) (World.block_lt_of_cell? _ _ (by assumption))).trans (by assumption); have hfb := (hb4.cell (p := ⟨w.heap.size, 1, none⟩) (World.block_lt_of_cell? _ _ (by assumption))).trans (by assumption)) | (go_at_call 30; refine (EqInts_c _ _ [] [] _ (hr3.keep hb4) hr4).mono ?_; rintro e w5 ⟨rfl, hb5⟩) | (go_at_call 19; refine (awake_c _).mono ?_; rintro e wa ⟨rfl, hba⟩))
    go_ret
    exact ⟨rfl, (by repeat (first | exact Below.refl _ _ | exact below_alloc _ _ | refine below_back (by assumption) ?_ | refine Below.drew ?_ | refine below_drewN ?_ _ | refine Below.alloc ?_ (by first | exact Nat.le_refl _ | (simp; done) | (simp; omega)) _))⟩

set_option maxRecDepth 100000 in
theorem lifted (os : Os) (started : os.Started) (H : Type) (enc : TypeId × Value → H) :
    ReturnsInHanded {} Try.checked os 7 .any (Rows.wordBytesSpec.pre6 enc Try.prog Try.f7 Rows.wordBytesRow.domain false) (Rows.wordBytesSpec.post enc Try.prog Try.f7 false true false false) := by
  refine returnsInHanded_of_change (C := Try.checked) own started (by kernel_rfl) Try.func7
    (ChangeSpec.witness6 (enc := enc) (C := Try.checked) false ⟨#[], #[.slice none 0 0, .int .i64 0, .int .i64 0, .agg #[.int .i64 0, .bool false]], []⟩ 8 (by kernel_rfl) (by kernel_rfl) (by kernel_rfl) (by kernel_rfl)) ?_
  intro W base args ds gs before hval0 hW hcnd _
  have hval : ∀ (j : Nat) t v, Try.f7.params[j]? = some t → args[j]? = some v → Value.okWide Try.prog W .any base t v := hval0
  have hW' := hW
  obtain ⟨p, q, hA0, hV, rfl, hfz, hnd⟩ := hW
  have hA : DataW.TrodAll enc Try.prog W 0 (fun _ => true) true Try.f7.params.toList args.toList ds p := hA0
  rw [Try.params7] at hA hval
  obtain ⟨v0, vs0, d0, ds0, p0, q0, hargs, rfl, rfl, h0, r0⟩ := trodAll_cons hA
  obtain ⟨v1, vs1, d1, ds1, p1, q1, rfl, rfl, rfl, h1, r1⟩ := trodAll_cons r0
  obtain ⟨v2, vs2, d2, ds2, p2, q2, rfl, rfl, rfl, h2, r2⟩ := trodAll_cons r1
  obtain ⟨v3, vs3, d3, ds3, p3, q3, rfl, rfl, rfl, h3, r3⟩ := trodAll_cons r2
  obtain ⟨rfl, rfl, rfl⟩ := trodAll_nil r3
  obtain rfl : args = #[v0, v1, v2, v3] := by cases args; simp_all
  obtain ⟨rfl, rfl⟩ := trodVars_none hV
  have k0 := h0
  have lt0 : ∀ x ∈ p0, x.block < W.heap.size := by obtain ⟨m, hm⟩ := k0; exact DataW.trod_lt m _ _ _ hm
  have k1 := h1
  have lt1 : ∀ x ∈ p1, x.block < W.heap.size := by obtain ⟨m, hm⟩ := k1; exact DataW.trod_lt m _ _ _ hm
  have k2 := h2
  have lt2 : ∀ x ∈ p2, x.block < W.heap.size := by obtain ⟨m, hm⟩ := k2; exact DataW.trod_lt m _ _ _ hm
  have k3 := h3
  have lt3 : ∀ x ∈ p3, x.block < W.heap.size := by obtain ⟨m, hm⟩ := k3; exact DataW.trod_lt m _ _ _ hm
  obtain ⟨a0, len0, cap0, rfl⟩ := okWide_slice Try.underlying37 (hval 0 37 v0 rfl rfl)
  obtain ⟨z0, w0⟩ : ∃ zs, IsRow .i64 W a0 len0 cap0 zs := isRow_of_trod Try.underlying37 Try.underlying3 (by kernel_rfl) h0
  obtain ⟨a1, rfl, rfl, rfl, w1⟩ := open_int Try.underlying3 (hval 1 3 v1 rfl rfl) h1
  obtain ⟨a2, rfl, rfl, rfl, w2⟩ := open_int Try.underlying3 (hval 2 3 v2 rfl rfl) h2
  obtain ⟨c3a, c3b, y3a, y3b, m3, rfl, rfl, rfl, hy3a, hy3b⟩ := open_agg2 Try.underlying27 (by kernel_rfl) (by kernel_rfl) (hval 3 27 v3 rfl rfl) h3
  obtain ⟨n3, e3a, rfl, w3⟩ := DataW.trod_int Try.underlying3 hy3a
  obtain ⟨g3, e3b, rfl⟩ := DataW.trod_bool Try.underlying4 hy3b
  simp at e3a e3b
  subst e3a e3b
  clear hA0 hval0
  refine (walk a0 len0 cap0 z0 a1 a2 n3 g3 W w0 w1 w2 w3).mono fun e W' ⟨he, bel⟩ => ?_
  subst he
  exact ⟨_, rfl, _, _, _, [], _, [], hW', trodAll_mk1 (shut_bool Try.underlying4 _), (trodAll_cons_mk (Below.trod laidOut (by kernel_rfl) (of_decide_eq_true (by kernel_rfl)) k0 bel lt0) (trodAll_cons_mk (Below.trod laidOut (by kernel_rfl) (of_decide_eq_true (by kernel_rfl)) k1 bel lt1) (trodAll_cons_mk (Below.trod laidOut (by kernel_rfl) (of_decide_eq_true (by kernel_rfl)) k2 bel lt2) (trodAll_cons_mk (Below.trod laidOut (by kernel_rfl) (of_decide_eq_true (by kernel_rfl)) k3 bel lt3) trodAll_mk0)))), rfl, bel.frame _, fun h => by cases h⟩

theorem over : Rows.wordBytesRow.holds Try.pinned (OpenSpec.ofChange Rows.wordBytesSpec) :=
  OpenClaim.holds_of_wide 7 Try.f7 rfl rfl rfl rfl rfl rfl rfl ⟨rfl, rfl, rfl, rfl, rfl⟩ rfl rfl rfl rfl rfl (by kernel_rfl) Try.func7 (by kernel_rfl)
    (of_decide_eq_true (by kernel_rfl)) (by unfold Func.isWrapper; first | (rw [if_pos (by decide +kernel)]; kernel_rfl) | (rw [if_neg (by decide +kernel)]; exact ⟨rfl, rfl⟩))
    (fun os started H enc _ => lifted os started H enc)

end Go.Proofs.Ytmhifelkihcidaa.wordBytes
namespace Go.Proofs.Ytmhifelkihcidaa
theorem wordBytes_holds : Rows.WordBytesSaid := wordBytes.over
end Go.Proofs.Ytmhifelkihcidaa
