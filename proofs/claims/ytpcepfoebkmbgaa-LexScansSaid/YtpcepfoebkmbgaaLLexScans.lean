/- The statement LexScans holds: the law returns true for all its arguments, and they read behind the call as before; no condition. -/
import Derived.Test.YtpcepfoebkmbgaaLxAwake
import Derived.Test.YtpcepfoebkmbgaaLxEqT
import Derived.Test.YtpcepfoebkmbgaaFrame
namespace Go.Proofs.Ytpcepfoebkmbgaa.lexScans
open Go.ChangeShapes Go.WideShapes Go.ChangeAt Go.RowKit Go.Joins 
open Go.ChangeMaps (open_string shut_string)
set_option linter.unusedVariables false
set_option maxHeartbeats 1000000 in
theorem walk (s0 : ByteArray) (w : World) (w0 : s0.size ≤ maxLen) :
    Calls Try.prog 3 #[.string s0] w fun e w' => e = .returned (.bool true) ∧ Below w.heap.size w w' := by
  clear w0
  cases hr : LX.scan (bs s0) with
  | bad er p =>
    have HC1 := Lib.hid (fun W => Scan_bad hr W)
    have HC2 := Lib.hid (fun W => refScan_bad hr W)
    clear hr
    go_enter Try.func3, Try.ntmps3
    go_wp2_with (first
      | (go_at_call 10; refine (HC1.out _).mono ?_; rintro e W1 ⟨rfl, hb1⟩)
      | (go_at_call 11; refine (HC2.out _).mono ?_; rintro e W2 ⟨rfl, hb2⟩)
      | (go_at_call 12; refine (eqTokens_c _ _ [] _ (RdT.nil _) (RdT.nil _)).mono ?_; rintro e W3 ⟨rfl, hb3⟩)
      | (go_at_call 13; refine (awake_c _).mono ?_; rintro e W4 ⟨rfl, hb4⟩))
    go_ret
    exact ⟨rfl, below_then hb1 (below_then hb2 (below_then hb3 hb4))⟩
  | good ts =>
    have HC1 := Lib.hid (fun W => Scan_good hr W)
    have HC2 := Lib.hid (fun W => refScan_good hr W)
    clear hr
    go_enter Try.func3, Try.ntmps3
    go_wp2_with (first
      | (go_at_call 10; refine (HC1.out _).mono ?_; rintro e W1 ⟨v1, rfl, hr1, hb1⟩; have HR1 := Lib.hid hr1; clear hr1)
      | (go_at_call 11; refine (HC2.out _).mono ?_; rintro e W2 ⟨v2, rfl, hr2, hb2⟩; have HR2 := Lib.hid hr2; have HR1' := Lib.hid (HR1.out.keep hb2); clear hr2)
      | (go_at_call 12; refine (eqTokens_c _ _ ts _ HR1'.out HR2.out).mono ?_; rintro e W3 ⟨rfl, hb3⟩)
      | (go_at_call 13; refine (awake_c _).mono ?_; rintro e W4 ⟨rfl, hb4⟩))
    go_ret
    exact ⟨rfl, below_then hb1 (below_then hb2 (below_then hb3 hb4))⟩

set_option maxRecDepth 100000 in
theorem lifted (os : Os) (started : os.Started) (H : Type) (enc : TypeId × Value → H) :
    ReturnsInHanded {} Try.checked os 3 .any (Rows.lexScansSpec.pre6 enc Try.prog Try.f3 Rows.lexScansRow.domain false) (Rows.lexScansSpec.post enc Try.prog Try.f3 false true false false) := by
  refine returnsInHanded_of_change (C := Try.checked) own started (by kernel_rfl) Try.func3
    (ChangeSpec.witness6 (enc := enc) (C := Try.checked) false ⟨#[], #[.string ⟨#[]⟩], []⟩ 8 (by kernel_rfl) (by kernel_rfl) (by kernel_rfl) (by kernel_rfl)) ?_
  intro W base args ds gs before hval0 hW hcnd _
  have hval : ∀ (j : Nat) t v, Try.f3.params[j]? = some t → args[j]? = some v → Value.okWide Try.prog W .any base t v := hval0
  have hW' := hW
  obtain ⟨p, q, hA0, hV, rfl, hfz, hnd⟩ := hW
  have hA : DataW.TrodAll enc Try.prog W 0 (fun _ => true) true Try.f3.params.toList args.toList ds p := hA0
  rw [Try.params3] at hA hval
  obtain ⟨v0, vs0, d0, ds0, p0, q0, hargs, rfl, rfl, h0, r0⟩ := trodAll_cons hA
  obtain ⟨rfl, rfl, rfl⟩ := trodAll_nil r0
  obtain rfl : args = #[v0] := by cases args; simp_all
  obtain ⟨rfl, rfl⟩ := trodVars_none hV
  have k0 := h0
  have lt0 : ∀ x ∈ p0, x.block < W.heap.size := by obtain ⟨m, hm⟩ := k0; exact DataW.trod_lt m _ _ _ hm
  obtain ⟨s0, rfl, rfl, rfl, w0⟩ := open_string Try.underlying9 (hval 0 9 v0 rfl rfl) h0
  clear hA0 hval0
  refine (walk s0 W w0).mono fun e W' ⟨he, bel⟩ => ?_
  subst he
  exact ⟨_, rfl, _, _, _, [], _, [], hW', trodAll_mk1 (shut_bool Try.underlying4 _), (trodAll_cons_mk (Below.trod laidOut (by kernel_rfl) (of_decide_eq_true (by kernel_rfl)) k0 bel lt0) trodAll_mk0), rfl, bel.frame _, fun h => by cases h⟩

theorem over : Rows.lexScansRow.holds Try.pinned (OpenSpec.ofChange Rows.lexScansSpec) :=
  OpenClaim.holds_of_wide 3 Try.f3 rfl rfl rfl rfl rfl rfl rfl ⟨rfl, rfl, rfl, rfl, rfl⟩ rfl rfl rfl rfl rfl (by kernel_rfl) Try.func3 (by kernel_rfl)
    (of_decide_eq_true (by kernel_rfl)) (by unfold Func.isWrapper; first | (rw [if_pos (by decide +kernel)]; kernel_rfl) | (rw [if_neg (by decide +kernel)]; exact ⟨rfl, rfl⟩))
    (fun os started H enc _ => lifted os started H enc)

end Go.Proofs.Ytpcepfoebkmbgaa.lexScans
namespace Go.Proofs.Ytpcepfoebkmbgaa
theorem lexScans_holds : Rows.LexScansSaid := lexScans.over
end Go.Proofs.Ytpcepfoebkmbgaa
