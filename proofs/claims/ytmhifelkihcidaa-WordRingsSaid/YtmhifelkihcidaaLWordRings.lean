/- The statement WordRings holds: the law returns true for all its arguments, and they read behind the call as before; no condition. -/
import Derived.Test.YtmhifelkihcidaaWOf
import Derived.Test.YtmhifelkihcidaaWRing
import Derived.Test.YtmhifelkihcidaaFrame
namespace Go.Proofs.Ytmhifelkihcidaa.wordRings
open Go.ChangeShapes Go.WideShapes Go.ChangeAt Go.RowKit Go.Joins WM
open Go.ChangeMaps (open_string shut_string)
set_option linter.unusedVariables false
set_option maxHeartbeats 1600000 in
theorem walk (a0 : Int) (a1 : Int) (a2 : Int) (a3 : Int) (w : World) (w0 : (Lit.int .i64 a0).wf = true) (w1 : (Lit.int .i64 a1).wf = true) (w2 : (Lit.int .i64 a2).wf = true) (w3 : (Lit.int .i64 a3).wf = true) :
    Calls Try.prog 9 #[.int .i64 a0, .int .i64 a1, .int .i64 a2, .int .i64 a3] w fun e w' => e = .returned (.bool true) ∧ Below w.heap.size w w' := by
  by_cases hb : IsBits a3
  · have hx0 := nm_nm a3 a0
    have hy0 := nm_nm a3 a1
    generalize hx : nm a3 a0 = x at *
    generalize hy : nm a3 a1 = y at *
    generalize hz : nm a3 a2 = z
    have HX := Lib.hid hx
    have HY := Lib.hid hy
    have HZ := Lib.hid hz
    have HNX : Hid (nm a3 x = x) := hx0
    have HNY : Hid (nm a3 y = y) := hy0
    clear hx hy hz hx0 hy0
    have e1 : ((apw 4 x y a3) != (apw 4 y x a3)) = false := bne_eq_false_iff_eq.2 (ring1 _ _ _)
    have e2 : ((apw 1 x y a3) != (apw 1 y x a3)) = false := bne_eq_false_iff_eq.2 (ring2 _ _ _)
    have e3 : ((apw 5 (apw 4 x y a3) y a3) != (x)) = false := bne_eq_false_iff_eq.2 (ring3 _ HNX.out)
    have e4 : ((apw 4 (apw 4 x y a3) z a3) != (apw 4 x (apw 4 y z a3) a3)) = false := bne_eq_false_iff_eq.2 (ring4 _ _ _ _)
    have e5 : ((apw 1 (apw 1 x y a3) z a3) != (apw 1 x (apw 1 y z a3) a3)) = false := bne_eq_false_iff_eq.2 (ring5 _ _ _ _)
    have e6 : ((apw 1 x (apw 4 y z a3) a3) != (apw 4 (apw 1 x y a3) (apw 1 x z a3) a3)) = false := bne_eq_false_iff_eq.2 (ring6 _ _ _ _)
    have e7 : ((apw 4 x (apw 18 x 0 a3) a3) != (0)) = false := bne_eq_false_iff_eq.2 (ring7 _ _)
    have e8 : ((apw 4 (apw 1 y (apw 2 x y a3) a3) (apw 3 x y a3) a3) != (x)) = false := bne_eq_false_iff_eq.2 (ring8 HNX.out HNY.out)
    clear w0 w1 w2 w3
    go_enter Try.func9, Try.ntmps9
    go_wp2_with (first | (go_at_call 18; refine (refBits_yes _ hb _).mono ?_; rintro e w' ⟨rfl, rfl⟩))
    refine (refWord_c a0 _ hb _).mono ?_
    rintro e w' ⟨rfl, rfl⟩
    rw [HX.out]
    go_wp2_with fail
    refine (refWord_c a1 _ hb _).mono ?_
    rintro e w' ⟨rfl, rfl⟩
    rw [HY.out]
    go_wp2_with fail
    refine (refWord_c a2 _ hb _).mono ?_
    rintro e w' ⟨rfl, rfl⟩
    rw [HZ.out]
    go_wp2_with fail
    go_region_held3 (fun w' => w'.cell? ⟨w.heap.size, 0, none⟩ = some (.int .i64 a3))
      (first | (refine (hb1.cell (World.block_lt_of_cell? _ _ (by assumption))).trans (by assumption)) | go_keep)
      ((first | (go_at_call 41; refine (of_c _ _ _ _ ⟨hb, by omega, by omega, fun h => by first | omega ⟩ _).mono ?_; rintro e w1 ⟨rfl, hb1⟩)))
    go_wp2_with fail
    go_region_held3 (fun w' => w'.cell? ⟨w.heap.size, 0, none⟩ = some (.int .i64 a3))
      (first | (refine (hb1.cell (World.block_lt_of_cell? _ _ (by assumption))).trans (by assumption)) | go_keep)
      ((first | (go_at_call 41; refine (of_c _ _ _ _ ⟨hb, by omega, by omega, fun h => by first | omega ⟩ _).mono ?_; rintro e w1 ⟨rfl, hb1⟩)))
    go_wp2_with fail
    go_region_held3 (fun w' => w'.cell? ⟨w.heap.size, 0, none⟩ = some (.int .i64 a3))
      (first | (refine (hb1.cell (World.block_lt_of_cell? _ _ (by assumption))).trans (by assumption)) | go_keep)
      ((first | (go_at_call 41; refine (of_c _ _ _ _ ⟨hb, by omega, by omega, fun h => by first | omega ⟩ _).mono ?_; rintro e w1 ⟨rfl, hb1⟩)))
    go_wp2_with fail
    by_cases c : y = 0
    · have c1 : (y != 0) = false := by simpa using c
      clear c
      go_quiet (fail)
      go_wp2_with (go_at_call 19; refine (awake_c _).mono ?_; rintro e wa ⟨rfl, hba⟩)
      go_ret
      exact ⟨rfl, (by repeat (first | exact Below.refl _ _ | exact below_alloc _ _ | refine below_back (by assumption) ?_ | refine Below.drew ?_ | refine below_drewN ?_ _ | refine Below.alloc ?_ (by first | exact Nat.le_refl _ | (simp; done) | (simp; omega)) _))⟩
    · have c1 : (y != 0) = true := by simpa using c
      have HY0 : Hid (¬ y = 0) := c
      clear c
      go_region_held3 (fun w' => w'.cell? ⟨w.heap.size, 0, none⟩ = some (.int .i64 a3))
        (first | (refine (hb1.cell (World.block_lt_of_cell? _ _ (by assumption))).trans (by assumption)) | go_keep)
        ((first | (go_at_call 41; refine (of_c _ _ _ _ ⟨hb, by omega, by omega, fun h => by first | omega | exact fun h0 => HY0.out (HNY.out.symm.trans h0)⟩ _).mono ?_; rintro e w1 ⟨rfl, hb1⟩)))
      go_wp2_with (go_at_call 19; refine (awake_c _).mono ?_; rintro e wa ⟨rfl, hba⟩)
      go_ret
      exact ⟨rfl, (by repeat (first | exact Below.refl _ _ | exact below_alloc _ _ | refine below_back (by assumption) ?_ | refine Below.drew ?_ | refine below_drewN ?_ _ | refine Below.alloc ?_ (by first | exact Nat.le_refl _ | (simp; done) | (simp; omega)) _))⟩
  · go_enter Try.func9, Try.ntmps9
    go_wp2_with (first | (go_at_call 18; refine (refBits_no _ hb _).mono ?_; rintro e w' ⟨rfl, rfl⟩))
    go_ret
    exact ⟨rfl, Below.refl _ _⟩

set_option maxRecDepth 100000 in
theorem lifted (os : Os) (started : os.Started) (H : Type) (enc : TypeId × Value → H) :
    ReturnsInHanded {} Try.checked os 9 .any (Rows.wordRingsSpec.pre6 enc Try.prog Try.f9 Rows.wordRingsRow.domain false) (Rows.wordRingsSpec.post enc Try.prog Try.f9 false true false false) := by
  refine returnsInHanded_of_change (C := Try.checked) own started (by kernel_rfl) Try.func9
    (ChangeSpec.witness6 (enc := enc) (C := Try.checked) false ⟨#[], #[.int .i64 0, .int .i64 0, .int .i64 0, .int .i64 0], []⟩ 8 (by kernel_rfl) (by kernel_rfl) (by kernel_rfl) (by kernel_rfl)) ?_
  intro W base args ds gs before hval0 hW hcnd _
  have hval : ∀ (j : Nat) t v, Try.f9.params[j]? = some t → args[j]? = some v → Value.okWide Try.prog W .any base t v := hval0
  have hW' := hW
  obtain ⟨p, q, hA0, hV, rfl, hfz, hnd⟩ := hW
  have hA : DataW.TrodAll enc Try.prog W 0 (fun _ => true) true Try.f9.params.toList args.toList ds p := hA0
  rw [Try.params9] at hA hval
  obtain ⟨v0, vs0, d0, ds0, p0, q0, hargs, rfl, rfl, h0, r0⟩ := trodAll_cons hA
  obtain ⟨v1, vs1, d1, ds1, p1, q1, rfl, rfl, rfl, h1, r1⟩ := trodAll_cons r0
  obtain ⟨v2, vs2, d2, ds2, p2, q2, rfl, rfl, rfl, h2, r2⟩ := trodAll_cons r1
  obtain ⟨v3, vs3, d3, ds3, p3, q3, rfl, rfl, rfl, h3, r3⟩ := trodAll_cons r2
  obtain ⟨rfl, rfl, rfl⟩ := trodAll_nil r3
  obtain rfl : args = #[v0, v1, v2, v3] := by cases args; simp_all
  obtain ⟨rfl, rfl⟩ := trodVars_none hV
  have k0 := h0
  have lt0 : ∀ x ∈ p0, x.block < W.heap.size := by obtain ⟨m, hm⟩ := k0; exact DataW.trod_lt m _ _ _ hm
  have k1 := h1
  have lt1 : ∀ x ∈ p1, x.block < W.heap.size := by obtain ⟨m, hm⟩ := k1; exact DataW.trod_lt m _ _ _ hm
  have k2 := h2
  have lt2 : ∀ x ∈ p2, x.block < W.heap.size := by obtain ⟨m, hm⟩ := k2; exact DataW.trod_lt m _ _ _ hm
  have k3 := h3
  have lt3 : ∀ x ∈ p3, x.block < W.heap.size := by obtain ⟨m, hm⟩ := k3; exact DataW.trod_lt m _ _ _ hm
  obtain ⟨a0, rfl, rfl, rfl, w0⟩ := open_int Try.underlying3 (hval 0 3 v0 rfl rfl) h0
  obtain ⟨a1, rfl, rfl, rfl, w1⟩ := open_int Try.underlying3 (hval 1 3 v1 rfl rfl) h1
  obtain ⟨a2, rfl, rfl, rfl, w2⟩ := open_int Try.underlying3 (hval 2 3 v2 rfl rfl) h2
  obtain ⟨a3, rfl, rfl, rfl, w3⟩ := open_int Try.underlying3 (hval 3 3 v3 rfl rfl) h3
  clear hA0 hval0
  refine (walk a0 a1 a2 a3 W w0 w1 w2 w3).mono fun e W' ⟨he, bel⟩ => ?_
  subst he
  exact ⟨_, rfl, _, _, _, [], _, [], hW', trodAll_mk1 (shut_bool Try.underlying4 _), (trodAll_cons_mk (Below.trod laidOut (by kernel_rfl) (of_decide_eq_true (by kernel_rfl)) k0 bel lt0) (trodAll_cons_mk (Below.trod laidOut (by kernel_rfl) (of_decide_eq_true (by kernel_rfl)) k1 bel lt1) (trodAll_cons_mk (Below.trod laidOut (by kernel_rfl) (of_decide_eq_true (by kernel_rfl)) k2 bel lt2) (trodAll_cons_mk (Below.trod laidOut (by kernel_rfl) (of_decide_eq_true (by kernel_rfl)) k3 bel lt3) trodAll_mk0)))), rfl, bel.frame _, fun h => by cases h⟩

theorem over : Rows.wordRingsRow.holds Try.pinned (OpenSpec.ofChange Rows.wordRingsSpec) :=
  OpenClaim.holds_of_wide 9 Try.f9 rfl rfl rfl rfl rfl rfl rfl ⟨rfl, rfl, rfl, rfl, rfl⟩ rfl rfl rfl rfl rfl (by kernel_rfl) Try.func9 (by kernel_rfl)
    (of_decide_eq_true (by kernel_rfl)) (by unfold Func.isWrapper; first | (rw [if_pos (by decide +kernel)]; kernel_rfl) | (rw [if_neg (by decide +kernel)]; exact ⟨rfl, rfl⟩))
    (fun os started H enc _ => lifted os started H enc)

end Go.Proofs.Ytmhifelkihcidaa.wordRings
namespace Go.Proofs.Ytmhifelkihcidaa
theorem wordRings_holds : Rows.WordRingsSaid := wordRings.over
end Go.Proofs.Ytmhifelkihcidaa
