/- The statement LexBlanks holds: the law returns true for all its arguments, and they read behind the call as before; no condition. -/
import Derived.Test.YtpcepfoebkmbgaaLxOpen
import Derived.Test.YtpcepfoebkmbgaaLxAlike
import Derived.Test.YtpcepfoebkmbgaaFrame
import Derived.Deep.RegionHeld3
namespace Go.Proofs.Ytpcepfoebkmbgaa.lexBlanks
open Go.ChangeShapes Go.WideShapes Go.ChangeAt Go.RowKit Go.Joins 
open Go.ChangeMaps (open_string shut_string)
set_option linter.unusedVariables false
set_option maxHeartbeats 2000000 in
theorem walk (s0 : ByteArray) (a1 : Int) (w : World) (w0 : s0.size ≤ maxLen) (w1 : (Lit.int .i64 a1).wf = true) :
    Calls Try.prog 8 #[.string s0, .int .i64 a1] w fun e w' => e = .returned (.bool true) ∧ Below w.heap.size w w' := by
  cases hr : LX.scan (bs s0) with
  | bad er p =>
    have HC1 := Lib.hid (fun W => Scan_bad hr W)
    have hpos := LX.scan_bad_pos hr
    have e0 : ((er : Int) != 0) = true := by simp; omega
    clear hr hpos
    go_enter Try.func8, Try.ntmps8
    go_wp2_with (first
      | (go_at_call 10; refine (HC1.out _).mono ?_; rintro e W1 ⟨rfl, hb1⟩; clear HC1)
      | (go_at_call 13; refine (awake_c _).mono ?_; rintro e W9 ⟨rfl, hb9⟩))
    go_ret
    exact ⟨rfl, below_then hb1 hb9⟩
  | good us =>
    have HC1 := Lib.hid (fun W => Scan_good hr W)
    obtain ⟨ts, hus, htl⟩ := LX.scan_good_form hr
    have hne : 0 < us.length := by rw [hus]; simp
    by_cases hneg : a1 < 0
    · have g1 : decide (a1 < (0 : Int)) = true := by rw [decide_eq_true_iff]; exact hneg
      clear hr hus htl hne hneg
      go_enter Try.func8, Try.ntmps8
      go_wp2_with (first
        | (go_at_call 10; refine (HC1.out _).mono ?_; rintro e W1 ⟨v1, rfl, hr1, hb1⟩; clear HC1; have HR1 := Lib.hid hr1; obtain ⟨ad1, cap1, rfl, hlim, hrest⟩ := hr1; clear hrest)
        | (go_at_call 13; refine (awake_c _).mono ?_; rintro e W9 ⟨rfl, hb9⟩))
      go_ret
      exact ⟨rfl, below_then hb1 hb9⟩
    have g1 : decide (a1 < (0 : Int)) = false := by rw [decide_eq_false_iff_not]; exact hneg
    by_cases hbig : (us.length : Int) ≤ a1
    · have g2 : decide ((us.length : Int) ≤ a1) = true := by rw [decide_eq_true_iff]; exact hbig
      clear hr hus htl hne hneg hbig
      go_enter Try.func8, Try.ntmps8
      go_wp2_with (first
        | (go_at_call 10; refine (HC1.out _).mono ?_; rintro e W1 ⟨v1, rfl, hr1, hb1⟩; clear HC1; have HR1 := Lib.hid hr1; obtain ⟨ad1, cap1, rfl, hlim, hrest⟩ := hr1; clear hrest)
        | (go_at_call 13; refine (awake_c _).mono ?_; rintro e W9 ⟨rfl, hb9⟩))
      go_ret
      exact ⟨rfl, below_then hb1 hb9⟩
    have g2 : decide ((us.length : Int) ≤ a1) = false := by rw [decide_eq_false_iff_not]; exact hbig
    have hs40 := (LX.scan_good_raw hr).1
    rw [bs_len] at hs40
    have nb : (s0.size : Int) + 8 ≤ 140737488351240 := by omega
    by_cases h8 : 40000 < s0.size + 8
    · have g3 : decide ((40000 : Int) < (s0.size : Int) + 8) = true := by rw [decide_eq_true_iff]; omega
      clear hr hus htl hne hneg hbig h8 hs40
      go_enter Try.func8, Try.ntmps8
      go_wp2_with (first
        | (go_at_call 10; refine (HC1.out _).mono ?_; rintro e W1 ⟨v1, rfl, hr1, hb1⟩; clear HC1; have HR1 := Lib.hid hr1; obtain ⟨ad1, cap1, rfl, hlim, hrest⟩ := hr1; clear hrest)
        | (go_at_call 13; refine (awake_c _).mono ?_; rintro e W9 ⟨rfl, hb9⟩))
      go_ret
      exact ⟨rfl, below_then hb1 hb9⟩
    have g3 : decide ((40000 : Int) < (s0.size : Int) + 8) = false := by rw [decide_eq_false_iff_not]; omega
    obtain ⟨k, rfl⟩ : ∃ k : Nat, a1 = (k : Int) := ⟨a1.toNat, by omega⟩
    have hkN : k < us.length := by omega
    have hk : us[k]? = some (us.getD k tz) := by rw [List.getD_eq_getElem?_getD, List.getElem?_eq_getElem hkN]; rfl
    obtain ⟨hpos, vs, hv, hAl⟩ := LX.scan_blanks (by rw [← hus]; exact hr) (by rw [← hus]; exact hk) (by rw [bs_len]; omega)
    rw [← hus] at hAl
    rw [bs_len] at hpos hv hAl
    have hx1 : (s0.extract 0 (us.getD k tz).pos).size = (us.getD k tz).pos := by rw [← bs_len, ext_take s0 0 _ (us.getD k tz).pos (by omega)]; rw [List.length_take, tl_len]; omega
    have hx2 : (s0.extract (us.getD k tz).pos s0.size).size = s0.size - (us.getD k tz).pos := ext_size s0 _
    have harg : bs (s0.extract 0 (us.getD k tz).pos ++ ⟨#[9, 32, 47, 47, 42, 32, 10]⟩ ++ s0.extract (us.getD k tz).pos s0.size) = (bs s0).take (us.getD k tz).pos ++ (LX.blanks ++ (bs s0).drop (us.getD k tz).pos) := by
      rw [bs_app, bs_app, ext_take s0 0 _ (us.getD k tz).pos (by omega), ext_rest, List.append_assoc]
      rfl
    have HC2 := Lib.hid (fun W => Scan_good (s := (s0.extract 0 (us.getD k tz).pos ++ ⟨#[9, 32, 47, 47, 42, 32, 10]⟩ ++ s0.extract (us.getD k tz).pos s0.size)) (by rw [harg]; exact hv) W)
    have HA := Lib.hid hAl
    have k0 : (0 : Int) ≤ ((us.getD k tz).pos : Int) := by omega
    have k1 : ((us.getD k tz).pos : Int) ≤ (s0.size : Int) := by omega
    have k2 : (0 : Int) ≤ (k : Int) := by omega
    have k3 : (k : Int) < (us.length : Int) := by omega
    clear hr hus htl hneg hbig h8 hk hv hAl harg
    have HX := Lib.hid hx1
    have hA2 := Lib.hid hne
    generalize hp : (us.getD k tz).pos = p at *
    have HP := Lib.hid hp
    have HK := Lib.hid hkN
    clear hp hkN hpos w1 HX nb
    have nb : (s0.size : Int) ≤ 40000 := by omega
    have nc1 : (9223372036854775807 < p + 7) = False := eq_false (by omega)
    have nc2 : (9223372036854775807 < p + 7 + (s0.size - p)) = False := eq_false (by omega)
    clear hs40
    go_enter Try.func8, Try.ntmps8
    go_wp2_with (first
      | (go_at_call 10; refine (HC1.out _).mono ?_; rintro e W1 ⟨v1, rfl, hr1, hb1⟩; clear HC1; have HR1 := Lib.hid hr1; obtain ⟨b1, o1, cap1, rfl, hc1⟩ := hr1.open hne; have hcell := (hc1 k HK.out).2.2.2; rw [HP.out] at hcell; clear hc1))
    go_wp2
    go_region_held3 (fun w' => w'.cell? ⟨b1, o1 + k * 4 + 3, none⟩ = some (.int .i64 (p : Int)))
      (first | (refine (hb2.cell (World.block_lt_of_cell? _ _ (by assumption))).trans (by assumption)) | go_keep)
      ((first | (go_at_call 10; refine (HC2.out _).mono ?_; rintro e W2 ⟨v2, rfl, hr2, hb2⟩)))
    have HR2 := Lib.hid hr2
    have HR1' := Lib.hid (HR1.out.keep (below_then (below_drewN (Below.refl _ _) 1) hb2))
    clear hr2 HC2
    go_wp2_with (first
      | (go_at_call 23; refine (alike_c _ _ _ _ _ HR1'.out HR2.out HA.out hne).mono ?_; rintro e W3 ⟨rfl, hb3⟩)
      | (go_at_call 13; refine (awake_c _).mono ?_; rintro e W9 ⟨rfl, hb9⟩))
    go_ret
    exact ⟨rfl, below_then hb1 (below_then (below_drewN (Below.refl _ _) 1) (below_then hb2 (below_then hb3 hb9)))⟩

set_option maxRecDepth 100000 in
theorem lifted (os : Os) (started : os.Started) (H : Type) (enc : TypeId × Value → H) :
    ReturnsInHanded {} Try.checked os 8 .any (Rows.lexBlanksSpec.pre6 enc Try.prog Try.f8 Rows.lexBlanksRow.domain false) (Rows.lexBlanksSpec.post enc Try.prog Try.f8 false true false false) := by
  refine returnsInHanded_of_change (C := Try.checked) own started (by kernel_rfl) Try.func8
    (ChangeSpec.witness6 (enc := enc) (C := Try.checked) false ⟨#[], #[.string ⟨#[]⟩, .int .i64 0], []⟩ 8 (by kernel_rfl) (by kernel_rfl) (by kernel_rfl) (by kernel_rfl)) ?_
  intro W base args ds gs before hval0 hW hcnd _
  have hval : ∀ (j : Nat) t v, Try.f8.params[j]? = some t → args[j]? = some v → Value.okWide Try.prog W .any base t v := hval0
  have hW' := hW
  obtain ⟨p, q, hA0, hV, rfl, hfz, hnd⟩ := hW
  have hA : DataW.TrodAll enc Try.prog W 0 (fun _ => true) true Try.f8.params.toList args.toList ds p := hA0
  rw [Try.params8] at hA hval
  obtain ⟨v0, vs0, d0, ds0, p0, q0, hargs, rfl, rfl, h0, r0⟩ := trodAll_cons hA
  obtain ⟨v1, vs1, d1, ds1, p1, q1, rfl, rfl, rfl, h1, r1⟩ := trodAll_cons r0
  obtain ⟨rfl, rfl, rfl⟩ := trodAll_nil r1
  obtain rfl : args = #[v0, v1] := by cases args; simp_all
  obtain ⟨rfl, rfl⟩ := trodVars_none hV
  have k0 := h0
  have lt0 : ∀ x ∈ p0, x.block < W.heap.size := by obtain ⟨m, hm⟩ := k0; exact DataW.trod_lt m _ _ _ hm
  have k1 := h1
  have lt1 : ∀ x ∈ p1, x.block < W.heap.size := by obtain ⟨m, hm⟩ := k1; exact DataW.trod_lt m _ _ _ hm
  obtain ⟨s0, rfl, rfl, rfl, w0⟩ := open_string Try.underlying9 (hval 0 9 v0 rfl rfl) h0
  obtain ⟨a1, rfl, rfl, rfl, w1⟩ := open_int Try.underlying3 (hval 1 3 v1 rfl rfl) h1
  clear hA0 hval0
  refine (walk s0 a1 W w0 w1).mono fun e W' ⟨he, bel⟩ => ?_
  subst he
  exact ⟨_, rfl, _, _, _, [], _, [], hW', trodAll_mk1 (shut_bool Try.underlying4 _), (trodAll_cons_mk (Below.trod laidOut (by kernel_rfl) (of_decide_eq_true (by kernel_rfl)) k0 bel lt0) (trodAll_cons_mk (Below.trod laidOut (by kernel_rfl) (of_decide_eq_true (by kernel_rfl)) k1 bel lt1) trodAll_mk0)), rfl, bel.frame _, fun h => by cases h⟩

theorem over : Rows.lexBlanksRow.holds Try.pinned (OpenSpec.ofChange Rows.lexBlanksSpec) :=
  OpenClaim.holds_of_wide 8 Try.f8 rfl rfl rfl rfl rfl rfl rfl ⟨rfl, rfl, rfl, rfl, rfl⟩ rfl rfl rfl rfl rfl (by kernel_rfl) Try.func8 (by kernel_rfl)
    (of_decide_eq_true (by kernel_rfl)) (by unfold Func.isWrapper; first | (rw [if_pos (by decide +kernel)]; kernel_rfl) | (rw [if_neg (by decide +kernel)]; exact ⟨rfl, rfl⟩))
    (fun os started H enc _ => lifted os started H enc)

end Go.Proofs.Ytpcepfoebkmbgaa.lexBlanks
namespace Go.Proofs.Ytpcepfoebkmbgaa
theorem lexBlanks_holds : Rows.LexBlanksSaid := lexBlanks.over
end Go.Proofs.Ytpcepfoebkmbgaa
