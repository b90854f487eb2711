/- The statement LexNames holds: the law returns true for all its arguments, and they read behind the call as before; no condition. -/
import Derived.Test.YtpcepfoebkmbgaaLxName
import Derived.Test.YtpcepfoebkmbgaaFrame
namespace Go.Proofs.Ytpcepfoebkmbgaa.lexNames
open Go.ChangeShapes Go.WideShapes Go.ChangeAt Go.RowKit Go.Joins 
open Go.ChangeMaps (open_string shut_string)
set_option linter.unusedVariables false
set_option maxHeartbeats 800000 in
theorem walk (s0 : ByteArray) (w : World) (w0 : s0.size ≤ maxLen) :
    Calls Try.prog 4 #[.string s0] w fun e w' => e = .returned (.bool true) ∧ Below w.heap.size w w' := by
  have hs' : s0.size ≤ 9223372036854775807 := by unfold maxLen at w0; omega
  clear w0
  go_enter Try.func4, Try.ntmps4
  go_wp2_with (first
    | (go_at_call 15; refine (Keys_c _).mono ?_; rintro e W1 ⟨v1, rfl, hr1, hb1⟩; have HR1 := Lib.hid hr1; clear hr1)
    | (go_at_call 16; refine (refKeys_c _).mono ?_; rintro e W2 ⟨v2, rfl, hr2, hb2⟩; have HR2 := Lib.hid hr2; have HR1' := Lib.hid (HR1.out.keep hb2); clear hr2)
    | (go_at_call 14; refine (eqStrings_c _ _ LX.signL _ HR4'.out HR5.out (by decide)).mono ?_; rintro e W6 ⟨rfl, hb6⟩)
    | (go_at_call 14; refine (eqStrings_c _ _ LX.keyL _ HR1'.out HR2.out (by decide)).mono ?_; rintro e W3 ⟨rfl, hb3⟩)
    | (go_at_call 17; refine (Signs_c _).mono ?_; rintro e W4 ⟨v4, rfl, hr4, hb4⟩; have HR4 := Lib.hid hr4; clear hr4)
    | (go_at_call 18; refine (refSigns_c _).mono ?_; rintro e W5 ⟨v5, rfl, hr5, hb5⟩; have HR5 := Lib.hid hr5; have HR4' := Lib.hid (HR4.out.keep hb5); clear hr5)
    | (go_at_call 19; refine (IsName_c _ _ hs').mono ?_; rintro e W7 ⟨rfl, hb7⟩)
    | (go_at_call 20; refine (refIsName_c _ _ hs').mono ?_; rintro e W8 ⟨rfl, hb8⟩))
  go_ret
  exact ⟨ret_bool (by simp), below_then hb1 (below_then hb2 (below_then hb3 (below_then hb4 (below_then hb5 (below_then hb6 (below_then hb7 hb8))))))⟩

set_option maxRecDepth 100000 in
theorem lifted (os : Os) (started : os.Started) (H : Type) (enc : TypeId × Value → H) :
    ReturnsInHanded {} Try.checked os 4 .any (Rows.lexNamesSpec.pre6 enc Try.prog Try.f4 Rows.lexNamesRow.domain false) (Rows.lexNamesSpec.post enc Try.prog Try.f4 false true false false) := by
  refine returnsInHanded_of_change (C := Try.checked) own started (by kernel_rfl) Try.func4
    (ChangeSpec.witness6 (enc := enc) (C := Try.checked) false ⟨#[], #[.string ⟨#[]⟩], []⟩ 8 (by kernel_rfl) (by kernel_rfl) (by kernel_rfl) (by kernel_rfl)) ?_
  intro W base args ds gs before hval0 hW hcnd _
  have hval : ∀ (j : Nat) t v, Try.f4.params[j]? = some t → args[j]? = some v → Value.okWide Try.prog W .any base t v := hval0
  have hW' := hW
  obtain ⟨p, q, hA0, hV, rfl, hfz, hnd⟩ := hW
  have hA : DataW.TrodAll enc Try.prog W 0 (fun _ => true) true Try.f4.params.toList args.toList ds p := hA0
  rw [Try.params4] at hA hval
  obtain ⟨v0, vs0, d0, ds0, p0, q0, hargs, rfl, rfl, h0, r0⟩ := trodAll_cons hA
  obtain ⟨rfl, rfl, rfl⟩ := trodAll_nil r0
  obtain rfl : args = #[v0] := by cases args; simp_all
  obtain ⟨rfl, rfl⟩ := trodVars_none hV
  have k0 := h0
  have lt0 : ∀ x ∈ p0, x.block < W.heap.size := by obtain ⟨m, hm⟩ := k0; exact DataW.trod_lt m _ _ _ hm
  obtain ⟨s0, rfl, rfl, rfl, w0⟩ := open_string Try.underlying9 (hval 0 9 v0 rfl rfl) h0
  clear hA0 hval0
  refine (walk s0 W w0).mono fun e W' ⟨he, bel⟩ => ?_
  subst he
  exact ⟨_, rfl, _, _, _, [], _, [], hW', trodAll_mk1 (shut_bool Try.underlying4 _), (trodAll_cons_mk (Below.trod laidOut (by kernel_rfl) (of_decide_eq_true (by kernel_rfl)) k0 bel lt0) trodAll_mk0), rfl, bel.frame _, fun h => by cases h⟩

theorem over : Rows.lexNamesRow.holds Try.pinned (OpenSpec.ofChange Rows.lexNamesSpec) :=
  OpenClaim.holds_of_wide 4 Try.f4 rfl rfl rfl rfl rfl rfl rfl ⟨rfl, rfl, rfl, rfl, rfl⟩ rfl rfl rfl rfl rfl (by kernel_rfl) Try.func4 (by kernel_rfl)
    (of_decide_eq_true (by kernel_rfl)) (by unfold Func.isWrapper; first | (rw [if_pos (by decide +kernel)]; kernel_rfl) | (rw [if_neg (by decide +kernel)]; exact ⟨rfl, rfl⟩))
    (fun os started H enc _ => lifted os started H enc)

end Go.Proofs.Ytpcepfoebkmbgaa.lexNames
namespace Go.Proofs.Ytpcepfoebkmbgaa
theorem lexNames_holds : Rows.LexNamesSaid := lexNames.over
end Go.Proofs.Ytpcepfoebkmbgaa
