/- The statement LexTwo holds: the law returns true for all its arguments, and they read behind the call as before; no condition. -/
import Derived.Test.YtpcepfoebkmbgaaLxTwA
import Derived.Test.YtpcepfoebkmbgaaLxTwM
import Derived.Test.YtpcepfoebkmbgaaFrame
import Derived.HandedShaped
import Derived.SizedLaws
namespace Go.Proofs.Ytpcepfoebkmbgaa.lexTwo
open Go.ChangeShapes Go.WideShapes Go.ChangeAt Go.RowKit Go.Joins 
open Go.ChangeMaps (open_string shut_string)
set_option linter.unusedVariables false
set_option maxHeartbeats 2000000 in
theorem walk (s0 : ByteArray) (s1 : ByteArray) (w : World) (w0 : s0.size ≤ 140737488351232) (w1 : s1.size ≤ 140737488351232) :
    Calls Try.prog 6 #[.string s0, .string s1] w fun e w' => e = .returned (.bool true) ∧ Below w.heap.size w w' := by
  by_cases h40 : 40000 ≤ s0.size + s1.size
  · have hsum : (s0.size : Int) + (s1.size : Int) ≤ 281474976702464 := by omega
    have g1 : decide ((40000 : Int) ≤ (s0.size : Int) + (s1.size : Int)) = true := by rw [decide_eq_true_iff]; omega
    clear h40
    go_enter Try.func6, Try.ntmps6
    go_wp2_with (go_at_call 13; refine (awake_c _).mono ?_; rintro e W9 ⟨rfl, hb9⟩)
    go_ret
    exact ⟨rfl, hb9⟩
  have hs : s0.size + s1.size < 40000 := by omega
  have hl : (bs s0).length + (bs s1).length < 40000 := by rw [bs_len, bs_len]; omega
  have hcat : bs (s0 ++ ⟨#[10]⟩ ++ s1) = bs s0 ++ 10 :: bs s1 := bs_cat s0 s1
  cases hr : LX.scan (bs s0) with
  | bad er p =>
    obtain ⟨e', p', hc, hpos'⟩ := LX.scan_two_bad hr hl
    exact two_a s0 s1 w hs er p e' p' hr (by rw [hcat]; exact hc) (LX.scan_bad_pos hr) hpos'
  | good ua =>
    obtain ⟨ts, hua, htl⟩ := LX.scan_good_form hr
    have hul : ua.length = ts.length + 1 := by rw [hua]; simp
    by_cases hbig : 20000 < ua.length + s1.size + 1
    · cases hc : LX.scan (bs (s0 ++ ⟨#[10]⟩ ++ s1)) with
      | bad e' p' => exact two_b s0 s1 w hs ua e' p' hr (by omega) hbig hc (LX.scan_bad_pos hc)
      | good uc => exact two_c s0 s1 w hs ua uc hr (by omega) hbig hc
    obtain ⟨hbadc, hgoodc⟩ := LX.scan_two (by rw [← hua]; exact hr) hl (by rw [bs_len]; omega)
    rw [← hcat, bs_len] at hbadc hgoodc
    cases hrb : LX.scan (bs s1) with
    | bad er p =>
      have hle := scan_bad_le hrb
      rw [bs_len] at hle
      exact two_d s0 s1 w hs ua er p _ hr (by omega) hbig hrb (LX.scan_bad_pos hrb) hle (hbadc er p hrb) rfl
    | good ub =>
      obtain ⟨t2, h2, h3⟩ := LX.scan_good_form hrb
      exact two_e s0 s1 w hs ua ub ts ts.length hr (by rw [hua]; simp) hul.symm htl hbig hrb (by rw [h2]; simp; omega) (by rw [h2]; simp) (good_pos hrb) (hgoodc ub hrb)

set_option maxRecDepth 100000 in
theorem lifted (os : Os) (started : os.Started) (H : Type) (enc : TypeId × Value → H) :
    ReturnsInHanded {} Try.checked os 6 .any (Rows.lexTwoSpec.pre6 enc Try.prog Try.f6 Rows.lexTwoRow.domain false) (Rows.lexTwoSpec.post enc Try.prog Try.f6 false true false false) := by
  refine returnsInHanded_of_change_shaped (C := Try.checked) own started (by kernel_rfl) Try.func6
    (ChangeSpec.witness6 (enc := enc) (C := Try.checked) false ⟨#[], #[.string ⟨#[]⟩, .string ⟨#[]⟩], []⟩ 8 (by kernel_rfl) (by kernel_rfl) (by kernel_rfl) (by kernel_rfl)) ?_
  intro W base args ds gs before hval0 hW hcnd hsz0 hshape _
  have hsz : (DataW.weightsEach Try.prog (Try.f6.params.toList ++ Rows.lexTwoSpec.plain.varTypes Try.prog) (ds ++ gs)).all (· ≤ reachBytes) = true := hsz0
  have hval : ∀ (j : Nat) t v, Try.f6.params[j]? = some t → args[j]? = some v → Value.okWide Try.prog W .any base t v := hval0
  have hW' := hW
  obtain ⟨p, q, hA0, hV, rfl, hfz, hnd⟩ := hW
  have hA : DataW.TrodAll enc Try.prog W 0 (fun _ => true) true Try.f6.params.toList args.toList ds p := hA0
  rw [Try.params6] at hA hval hsz
  obtain ⟨v0, vs0, d0, ds0, p0, q0, hargs, rfl, rfl, h0, r0⟩ := trodAll_cons hA
  obtain ⟨v1, vs1, d1, ds1, p1, q1, rfl, rfl, rfl, h1, r1⟩ := trodAll_cons r0
  obtain ⟨rfl, rfl, rfl⟩ := trodAll_nil r1
  obtain rfl : args = #[v0, v1] := by cases args; simp_all
  obtain ⟨rfl, rfl⟩ := trodVars_none hV
  have k0 := h0
  have lt0 : ∀ x ∈ p0, x.block < W.heap.size := by obtain ⟨m, hm⟩ := k0; exact DataW.trod_lt m _ _ _ hm
  have k1 := h1
  have lt1 : ∀ x ∈ p1, x.block < W.heap.size := by obtain ⟨m, hm⟩ := k1; exact DataW.trod_lt m _ _ _ hm
  obtain ⟨s0, rfl, rfl, rfl, w0⟩ := open_string Try.underlying9 (hval 0 9 v0 rfl rfl) h0
  obtain ⟨s1, rfl, rfl, rfl, w1⟩ := open_string Try.underlying9 (hval 1 9 v1 rfl rfl) h1
  have z0 : s0.size ≤ 140737488351232 := by
    have h := sized_string hsz (j := 0) (t := 9) rfl rfl
    have e : s0.data.toList.length = s0.size := by cases s0; simp [ByteArray.size]
    simp only [reachBytes] at h; omega
  have z1 : s1.size ≤ 140737488351232 := by
    have h := sized_string hsz (j := 1) (t := 9) rfl rfl
    have e : s1.data.toList.length = s1.size := by cases s1; simp [ByteArray.size]
    simp only [reachBytes] at h; omega
  clear hA0 hval0
  refine (walk s0 s1 W z0 z1).mono fun e W' ⟨he, bel⟩ => ?_
  subst he
  exact ⟨_, rfl, _, _, _, [], _, [], hW', trodAll_mk1 (shut_bool Try.underlying4 _), (trodAll_cons_mk (Below.trod laidOut (by kernel_rfl) (of_decide_eq_true (by kernel_rfl)) k0 bel lt0) (trodAll_cons_mk (Below.trod laidOut (by kernel_rfl) (of_decide_eq_true (by kernel_rfl)) k1 bel lt1) trodAll_mk0)), rfl, bel.frame _, fun h => by cases h⟩

theorem over : Rows.lexTwoRow.holds Try.pinned (OpenSpec.ofChange Rows.lexTwoSpec) :=
  OpenClaim.holds_of_wide 6 Try.f6 rfl rfl rfl rfl rfl rfl rfl ⟨rfl, rfl, rfl, rfl, rfl⟩ rfl rfl rfl rfl rfl (by kernel_rfl) Try.func6 (by kernel_rfl)
    (of_decide_eq_true (by kernel_rfl)) (by unfold Func.isWrapper; first | (rw [if_pos (by decide +kernel)]; kernel_rfl) | (rw [if_neg (by decide +kernel)]; exact ⟨rfl, rfl⟩))
    (fun os started H enc _ => lifted os started H enc)

end Go.Proofs.Ytpcepfoebkmbgaa.lexTwo
namespace Go.Proofs.Ytpcepfoebkmbgaa
theorem lexTwo_holds : Rows.LexTwoSaid := lexTwo.over
end Go.Proofs.Ytpcepfoebkmbgaa
