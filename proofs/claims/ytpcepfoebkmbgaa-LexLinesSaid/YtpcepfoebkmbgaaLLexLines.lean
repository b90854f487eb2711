/- The statement LexLines holds: the law returns true for all its arguments, and they read behind the call as before; no condition. -/
import Derived.Test.YtpcepfoebkmbgaaLxLineB
import Derived.Test.YtpcepfoebkmbgaaLxAwake
import Derived.Test.YtpcepfoebkmbgaaFrame
import Derived.HandedShaped
import Derived.SizedLaws
namespace Go.Proofs.Ytpcepfoebkmbgaa.lexLines
open Go.ChangeShapes Go.WideShapes Go.ChangeAt Go.RowKit Go.Joins 
open Go.ChangeMaps (open_string shut_string)
set_option linter.unusedVariables false
set_option maxHeartbeats 1000000 in
theorem walk (s0 : ByteArray) (a1 : Int) (w : World) (w0 : s0.size ≤ 140737488351232) (w1 : (Lit.int .i64 a1).wf = true) :
    Calls Try.prog 5 #[.string s0, .int .i64 a1] w fun e w' => e = .returned (.bool true) ∧ Below w.heap.size w w' := by
  by_cases hneg : a1 < 0
  · have H := Lib.hid hneg
    clear hneg
    go_enter Try.func5, Try.ntmps5
    go_wp2_with (first
      | (go_at_call 21; refine (Line_neg s0 a1 _ H.out).mono ?_; rintro e W1 ⟨rfl, hb1⟩)
      | (go_at_call 22; refine (refLine_neg s0 a1 _ H.out).mono ?_; rintro e W2 ⟨rfl, hb2⟩)
      | (go_at_call 13; refine (awake_c _).mono ?_; rintro e W9 ⟨rfl, hb9⟩))
    go_ret
    exact ⟨rfl, below_then hb1 (below_then hb2 hb9)⟩
  by_cases hfar : (s0.size : Int) < a1
  · have H := Lib.hid hneg
    have H2 := Lib.hid hfar
    clear hneg hfar
    go_enter Try.func5, Try.ntmps5
    go_wp2_with (first
      | (go_at_call 21; refine (Line_far s0 a1 _ (by have h := H.out; omega) (by have h := H2.out; omega)).mono ?_; rintro e W1 ⟨rfl, hb1⟩)
      | (go_at_call 22; refine (refLine_far s0 a1 _ (by have h := H.out; omega) (by have h := H2.out; omega)).mono ?_; rintro e W2 ⟨rfl, hb2⟩)
      | (go_at_call 13; refine (awake_c _).mono ?_; rintro e W9 ⟨rfl, hb9⟩))
    go_ret
    exact ⟨rfl, below_then hb1 (below_then hb2 hb9)⟩
  obtain ⟨n, rfl⟩ : ∃ n : Nat, a1 = (n : Int) := ⟨a1.toNat, by omega⟩
  have hn : n ≤ s0.size := by omega
  obtain ⟨a, ha⟩ : ∃ a, (lnG ((bs s0).take n)).1 = a := ⟨_, rfl⟩
  obtain ⟨b, hb⟩ : ∃ b, (lnG ((bs s0).take n)).2 = b := ⟨_, rfl⟩
  have HC1 : Hid (∀ W, Calls Try.prog 21 #[.string s0, .int .i64 (n : Int)] W fun e w' => e = .returned (.tuple #[.int .i64 ((a : Int) + 1), .int .i64 (b : Int), .int .i64 0]) ∧ Below W.heap.size W w') := by
    intro W; have h := Line_c s0 n W w0 hn; rw [ha, hb] at h; exact h
  have HC2 : Hid (∀ W, Calls Try.prog 22 #[.string s0, .int .i64 (n : Int)] W fun e w' => e = .returned (.tuple #[.int .i64 ((a : Int) + 1), .int .i64 (b : Int), .int .i64 0]) ∧ Below W.heap.size W w') := by
    intro W; have h := refLine_c s0 n W w0 hn; rw [ha, hb] at h; exact h
  have hk : (n : Int) ≤ (s0.size : Int) := by omega
  clear ha hb w1
  clear hneg hfar hn
  go_enter Try.func5, Try.ntmps5
  go_wp2_with (first
    | (go_at_call 21; refine (HC1.out _).mono ?_; rintro e W1 ⟨rfl, hb1⟩)
    | (go_at_call 22; refine (HC2.out _).mono ?_; rintro e W2 ⟨rfl, hb2⟩)
    | (go_at_call 13; refine (awake_c _).mono ?_; rintro e W9 ⟨rfl, hb9⟩))
  go_ret
  exact ⟨rfl, below_then hb1 (below_then hb2 hb9)⟩

set_option maxRecDepth 100000 in
theorem lifted (os : Os) (started : os.Started) (H : Type) (enc : TypeId × Value → H) :
    ReturnsInHanded {} Try.checked os 5 .any (Rows.lexLinesSpec.pre6 enc Try.prog Try.f5 Rows.lexLinesRow.domain false) (Rows.lexLinesSpec.post enc Try.prog Try.f5 false true false false) := by
  refine returnsInHanded_of_change_shaped (C := Try.checked) own started (by kernel_rfl) Try.func5
    (ChangeSpec.witness6 (enc := enc) (C := Try.checked) false ⟨#[], #[.string ⟨#[]⟩, .int .i64 0], []⟩ 8 (by kernel_rfl) (by kernel_rfl) (by kernel_rfl) (by kernel_rfl)) ?_
  intro W base args ds gs before hval0 hW hcnd hsz0 hshape _
  have hsz : (DataW.weightsEach Try.prog (Try.f5.params.toList ++ Rows.lexLinesSpec.plain.varTypes Try.prog) (ds ++ gs)).all (· ≤ reachBytes) = true := hsz0
  have hval : ∀ (j : Nat) t v, Try.f5.params[j]? = some t → args[j]? = some v → Value.okWide Try.prog W .any base t v := hval0
  have hW' := hW
  obtain ⟨p, q, hA0, hV, rfl, hfz, hnd⟩ := hW
  have hA : DataW.TrodAll enc Try.prog W 0 (fun _ => true) true Try.f5.params.toList args.toList ds p := hA0
  rw [Try.params5] at hA hval hsz
  obtain ⟨v0, vs0, d0, ds0, p0, q0, hargs, rfl, rfl, h0, r0⟩ := trodAll_cons hA
  obtain ⟨v1, vs1, d1, ds1, p1, q1, rfl, rfl, rfl, h1, r1⟩ := trodAll_cons r0
  obtain ⟨rfl, rfl, rfl⟩ := trodAll_nil r1
  obtain rfl : args = #[v0, v1] := by cases args; simp_all
  obtain ⟨rfl, rfl⟩ := trodVars_none hV
  have k0 := h0
  have lt0 : ∀ x ∈ p0, x.block < W.heap.size := by obtain ⟨m, hm⟩ := k0; exact DataW.trod_lt m _ _ _ hm
  have k1 := h1
  have lt1 : ∀ x ∈ p1, x.block < W.heap.size := by obtain ⟨m, hm⟩ := k1; exact DataW.trod_lt m _ _ _ hm
  obtain ⟨s0, rfl, rfl, rfl, w0⟩ := open_string Try.underlying9 (hval 0 9 v0 rfl rfl) h0
  obtain ⟨a1, rfl, rfl, rfl, w1⟩ := open_int Try.underlying3 (hval 1 3 v1 rfl rfl) h1
  have z0 : s0.size ≤ 140737488351232 := by
    have h := sized_string hsz (j := 0) (t := 9) rfl rfl
    have e : s0.data.toList.length = s0.size := by cases s0; simp [ByteArray.size]
    simp only [reachBytes] at h; omega
  clear hA0 hval0
  refine (walk s0 a1 W z0 w1).mono fun e W' ⟨he, bel⟩ => ?_
  subst he
  exact ⟨_, rfl, _, _, _, [], _, [], hW', trodAll_mk1 (shut_bool Try.underlying4 _), (trodAll_cons_mk (Below.trod laidOut (by kernel_rfl) (of_decide_eq_true (by kernel_rfl)) k0 bel lt0) (trodAll_cons_mk (Below.trod laidOut (by kernel_rfl) (of_decide_eq_true (by kernel_rfl)) k1 bel lt1) trodAll_mk0)), rfl, bel.frame _, fun h => by cases h⟩

theorem over : Rows.lexLinesRow.holds Try.pinned (OpenSpec.ofChange Rows.lexLinesSpec) :=
  OpenClaim.holds_of_wide 5 Try.f5 rfl rfl rfl rfl rfl rfl rfl ⟨rfl, rfl, rfl, rfl, rfl⟩ rfl rfl rfl rfl rfl (by kernel_rfl) Try.func5 (by kernel_rfl)
    (of_decide_eq_true (by kernel_rfl)) (by unfold Func.isWrapper; first | (rw [if_pos (by decide +kernel)]; kernel_rfl) | (rw [if_neg (by decide +kernel)]; exact ⟨rfl, rfl⟩))
    (fun os started H enc _ => lifted os started H enc)

end Go.Proofs.Ytpcepfoebkmbgaa.lexLines
namespace Go.Proofs.Ytpcepfoebkmbgaa
theorem lexLines_holds : Rows.LexLinesSaid := lexLines.over
end Go.Proofs.Ytpcepfoebkmbgaa
