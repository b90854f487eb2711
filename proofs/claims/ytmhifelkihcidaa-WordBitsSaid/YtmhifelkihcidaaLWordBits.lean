/- The statement WordBits holds: the law returns true for all its arguments, and they read behind the call as before; no condition. -/
import Derived.Test.YtmhifelkihcidaaWOf
import Derived.Test.YtmhifelkihcidaaWRing
import Derived.Test.YtmhifelkihcidaaFrame
namespace Go.Proofs.Ytmhifelkihcidaa.wordBits
open Go.ChangeShapes Go.WideShapes Go.ChangeAt Go.RowKit Go.Joins WM
open Go.ChangeMaps (open_string shut_string)
set_option linter.unusedVariables false
set_option maxHeartbeats 1600000 in
theorem walk (a0 : Int) (a1 : Int) (a2 : Int) (a3 : Int) (w : World) (w0 : (Lit.int .i64 a0).wf = true) (w1 : (Lit.int .i64 a1).wf = true) (w2 : (Lit.int .i64 a2).wf = true) (w3 : (Lit.int .i64 a3).wf = true) :
    Calls Try.prog 10 #[.int .i64 a0, .int .i64 a1, .int .i64 a2, .int .i64 a3] w fun e w' => e = .returned (.bool true) ∧ Below w.heap.size w w' := by
  by_cases hb : IsBits a3
  · by_cases hn0 : a2 < 0
    · go_enter Try.func10, Try.ntmps10
      go_wp2_with (first | (go_at_call 18; refine (refBits_yes _ hb _).mono ?_; rintro e w' ⟨rfl, rfl⟩))
      go_ret
      exact ⟨rfl, Below.refl _ _⟩
    by_cases hn1 : a3 ≤ a2
    · go_enter Try.func10, Try.ntmps10
      go_wp2_with (first | (go_at_call 18; refine (refBits_yes _ hb _).mono ?_; rintro e w' ⟨rfl, rfl⟩))
      go_ret
      exact ⟨rfl, Below.refl _ _⟩
    obtain ⟨m, rfl⟩ := Int.eq_ofNat_of_zero_le (show 0 ≤ a2 by omega)
    have hmn : (m : Int) < a3 := by omega
    have h32 : a3 ≤ 32 := by rcases hb with rfl | rfl | rfl <;> omega
    have hx0 := nm_nm a3 a0
    generalize hx : nm a3 a0 = x at *
    generalize hy : nm a3 a1 = y
    have HX := Lib.hid hx
    have HY := Lib.hid hy
    have HNX : Hid (nm a3 x = x) := hx0
    clear hx hy hx0
    clear w0 w1 w2 w3
    have hc0 : (w.alloc (.cells #[.int .i64 a3] 53)).cell? ⟨w.heap.size, 0, none⟩ = some (.int .i64 a3) := (World.cell?_alloc_at _ _ _ _ rfl).trans rfl
    have e1 : ((apw 8 x y a3) != (apw 19 (apw 9 (apw 19 x 0 a3) (apw 19 y 0 a3) a3) 0 a3)) = false := bne_eq_false_iff_eq.2 (bit1 hb _ _)
    have e2 : ((apw 11 x y a3) != (apw 19 (apw 10 x y a3) 0 a3)) = false := bne_eq_false_iff_eq.2 (bit2 hb _ _)
    have e3 : ((apw 10 (apw 10 x y a3) y a3) != (x)) = false := bne_eq_false_iff_eq.2 (bit3 hb _ HNX.out)
    go_enter Try.func10, Try.ntmps10
    go_wp2_with (first | (go_at_call 18; refine (refBits_yes _ hb _).mono ?_; rintro e w' ⟨rfl, rfl⟩))
    refine (refWord_c a0 _ hb _).mono ?_
    rintro e w' ⟨rfl, rfl⟩
    rw [HX.out]
    go_wp2_with fail
    refine (refWord_c a1 _ hb _).mono ?_
    rintro e w' ⟨rfl, rfl⟩
    rw [HY.out]
    go_wp2_with fail
    go_wp2_with (first | (go_at_call 41; refine (of_c _ _ _ _ ⟨hb, by omega, by omega, fun h => by first | omega ⟩ _).mono ?_; rintro e w1 ⟨rfl, hb1⟩; have hcell := (hb1.cell (p := ⟨w.heap.size, 0, none⟩) (World.block_lt_of_cell? _ _ (by assumption))).trans (by assumption)))
    go_region_held3 (fun w' => w'.cell? ⟨w.heap.size, 0, none⟩ = some (.int .i64 a3))
      (first | (refine (hb1.cell (World.block_lt_of_cell? _ _ (by assumption))).trans (by assumption)) | go_keep)
      ((first | (go_at_call 41; refine (of_c _ _ _ _ ⟨hb, by omega, by omega, fun h => by first | omega ⟩ _).mono ?_; rintro e w1 ⟨rfl, hb1⟩)))
    go_wp2_with fail
    clear e1 e2 e3
    go_wp2
    go_loopw [13, 14] (fun p i wr => ∃ k : Nat, k ≤ m ∧ i = .int .i64 k ∧ p = .int .i64 (pw a3 k) ∧ Below w.heap.size w wr ∧ wr.cell? ⟨w.heap.size, 0, none⟩ = some (.int .i64 a3)) (fun _ i _ => m - (intOf i).toNat)
    case atStart => exact ⟨0, Nat.zero_le _, rfl, rfl, (by repeat (first | exact Below.refl _ _ | exact below_alloc _ _ | refine below_back (by assumption) ?_ | refine Below.drew ?_ | refine below_drewN ?_ _ | refine Below.alloc ?_ (by first | exact Nat.le_refl _ | (simp; done) | (simp; omega)) _)), by assumption⟩
    case round =>
      obtain ⟨k, hk, rfl, rfl, hnx, hcr⟩ := hrel
      by_cases hlt : k < m
      · go_wp2_with (first | (go_at_call 41; refine (of_c _ _ _ _ ⟨hb, by omega, by omega, fun h => by first | omega ⟩ _).mono ?_; rintro e w1 ⟨rfl, hb1⟩; have hcell := (hb1.cell (p := ⟨w.heap.size, 0, none⟩) (World.block_lt_of_cell? _ _ (by assumption))).trans (by assumption)))
        go_roundw
        case rel => exact ⟨k + 1, by omega, by go_num, rfl, below_then hnx hb1, by assumption⟩
        case measure => simp [intOf]; omega
      · obtain rfl : k = m := by omega
        clear hlt hk
        go_wp2_with (first | (go_at_call 41; refine (of_c _ _ _ _ ⟨hb, by omega, by omega, fun h => by first | omega ⟩ _).mono ?_; rintro e w1 ⟨rfl, hb1⟩; have hcell := (hb1.cell (p := ⟨w.heap.size, 0, none⟩) (World.block_lt_of_cell? _ _ (by assumption))).trans (by assumption)))
        have e4 : ((apw 6 x k a3) == (apw 1 x (pw a3 k) a3)) = true := beq_iff_eq.2 (bit4 hb _ _ hmn)
        have e5 : ((apw 6 (apw 7 x k a3) k a3) == (apw 8 x (apw 19 (apw 5 (pw a3 k) 1 a3) 0 a3) a3)) = true := beq_iff_eq.2 (bit5 hb _ _ hmn)
        have e6 : ((apw 4 (apw 8 x y a3) (apw 9 x y a3) a3) == (apw 4 x y a3)) = true := beq_iff_eq.2 (bit6 hb _ _)
        go_region_held3 (fun w' => w'.cell? ⟨w.heap.size, 0, none⟩ = some (.int .i64 a3))
          (first | (refine (hb1.cell (World.block_lt_of_cell? _ _ (by assumption))).trans (by assumption)) | (refine (hba.cell (World.block_lt_of_cell? _ _ (by assumption))).trans (by assumption)) | go_keep)
          ((first | (go_at_call 41; refine (of_c _ _ _ _ ⟨hb, by omega, by omega, fun h => by first | omega ⟩ _).mono ?_; rintro e w1 ⟨rfl, hb1⟩) | (go_at_call 19; refine (awake_c _).mono ?_; rintro e wa ⟨rfl, hba⟩)))
        go_wp2
        go_ret
        exact ⟨rfl, (by repeat (first | exact Below.refl _ _ | exact below_alloc _ _ | exact hnx | refine below_back (by assumption) ?_ | refine Below.drew ?_ | refine below_drewN ?_ _ | refine Below.alloc ?_ (by first | exact Nat.le_refl _ | (simp; done) | (simp; omega)) _))⟩
  · go_enter Try.func10, Try.ntmps10
    go_wp2_with (first | (go_at_call 18; refine (refBits_no _ hb _).mono ?_; rintro e w' ⟨rfl, rfl⟩))
    go_ret
    exact ⟨rfl, Below.refl _ _⟩

set_option maxRecDepth 100000 in
theorem lifted (os : Os) (started : os.Started) (H : Type) (enc : TypeId × Value → H) :
    ReturnsInHanded {} Try.checked os 10 .any (Rows.wordBitsSpec.pre6 enc Try.prog Try.f10 Rows.wordBitsRow.domain false) (Rows.wordBitsSpec.post enc Try.prog Try.f10 false true false false) := by
  refine returnsInHanded_of_change (C := Try.checked) own started (by kernel_rfl) Try.func10
    (ChangeSpec.witness6 (enc := enc) (C := Try.checked) false ⟨#[], #[.int .i64 0, .int .i64 0, .int .i64 0, .int .i64 0], []⟩ 8 (by kernel_rfl) (by kernel_rfl) (by kernel_rfl) (by kernel_rfl)) ?_
  intro W base args ds gs before hval0 hW hcnd _
  have hval : ∀ (j : Nat) t v, Try.f10.params[j]? = some t → args[j]? = some v → Value.okWide Try.prog W .any base t v := hval0
  have hW' := hW
  obtain ⟨p, q, hA0, hV, rfl, hfz, hnd⟩ := hW
  have hA : DataW.TrodAll enc Try.prog W 0 (fun _ => true) true Try.f10.params.toList args.toList ds p := hA0
  rw [Try.params10] at hA hval
  obtain ⟨v0, vs0, d0, ds0, p0, q0, hargs, rfl, rfl, h0, r0⟩ := trodAll_cons hA
  obtain ⟨v1, vs1, d1, ds1, p1, q1, rfl, rfl, rfl, h1, r1⟩ := trodAll_cons r0
  obtain ⟨v2, vs2, d2, ds2, p2, q2, rfl, rfl, rfl, h2, r2⟩ := trodAll_cons r1
  obtain ⟨v3, vs3, d3, ds3, p3, q3, rfl, rfl, rfl, h3, r3⟩ := trodAll_cons r2
  obtain ⟨rfl, rfl, rfl⟩ := trodAll_nil r3
  obtain rfl : args = #[v0, v1, v2, v3] := by cases args; simp_all
  obtain ⟨rfl, rfl⟩ := trodVars_none hV
  have k0 := h0
  have lt0 : ∀ x ∈ p0, x.block < W.heap.size := by obtain ⟨m, hm⟩ := k0; exact DataW.trod_lt m _ _ _ hm
  have k1 := h1
  have lt1 : ∀ x ∈ p1, x.block < W.heap.size := by obtain ⟨m, hm⟩ := k1; exact DataW.trod_lt m _ _ _ hm
  have k2 := h2
  have lt2 : ∀ x ∈ p2, x.block < W.heap.size := by obtain ⟨m, hm⟩ := k2; exact DataW.trod_lt m _ _ _ hm
  have k3 := h3
  have lt3 : ∀ x ∈ p3, x.block < W.heap.size := by obtain ⟨m, hm⟩ := k3; exact DataW.trod_lt m _ _ _ hm
  obtain ⟨a0, rfl, rfl, rfl, w0⟩ := open_int Try.underlying3 (hval 0 3 v0 rfl rfl) h0
  obtain ⟨a1, rfl, rfl, rfl, w1⟩ := open_int Try.underlying3 (hval 1 3 v1 rfl rfl) h1
  obtain ⟨a2, rfl, rfl, rfl, w2⟩ := open_int Try.underlying3 (hval 2 3 v2 rfl rfl) h2
  obtain ⟨a3, rfl, rfl, rfl, w3⟩ := open_int Try.underlying3 (hval 3 3 v3 rfl rfl) h3
  clear hA0 hval0
  refine (walk a0 a1 a2 a3 W w0 w1 w2 w3).mono fun e W' ⟨he, bel⟩ => ?_
  subst he
  exact ⟨_, rfl, _, _, _, [], _, [], hW', trodAll_mk1 (shut_bool Try.underlying4 _), (trodAll_cons_mk (Below.trod laidOut (by kernel_rfl) (of_decide_eq_true (by kernel_rfl)) k0 bel lt0) (trodAll_cons_mk (Below.trod laidOut (by kernel_rfl) (of_decide_eq_true (by kernel_rfl)) k1 bel lt1) (trodAll_cons_mk (Below.trod laidOut (by kernel_rfl) (of_decide_eq_true (by kernel_rfl)) k2 bel lt2) (trodAll_cons_mk (Below.trod laidOut (by kernel_rfl) (of_decide_eq_true (by kernel_rfl)) k3 bel lt3) trodAll_mk0)))), rfl, bel.frame _, fun h => by cases h⟩

theorem over : Rows.wordBitsRow.holds Try.pinned (OpenSpec.ofChange Rows.wordBitsSpec) :=
  OpenClaim.holds_of_wide 10 Try.f10 rfl rfl rfl rfl rfl rfl rfl ⟨rfl, rfl, rfl, rfl, rfl⟩ rfl rfl rfl rfl rfl (by kernel_rfl) Try.func10 (by kernel_rfl)
    (of_decide_eq_true (by kernel_rfl)) (by unfold Func.isWrapper; first | (rw [if_pos (by decide +kernel)]; kernel_rfl) | (rw [if_neg (by decide +kernel)]; exact ⟨rfl, rfl⟩))
    (fun os started H enc _ => lifted os started H enc)

end Go.Proofs.Ytmhifelkihcidaa.wordBits
namespace Go.Proofs.Ytmhifelkihcidaa
theorem wordBits_holds : Rows.WordBitsSaid := wordBits.over
end Go.Proofs.Ytmhifelkihcidaa
