/- The statement LexRises holds: the law returns true for all its arguments, and they read behind the call as before; no condition. -/
import Derived.Test.YtpcepfoebkmbgaaLxRisD
import Derived.Test.YtpcepfoebkmbgaaFrame
namespace Go.Proofs.Ytpcepfoebkmbgaa.lexRises
open Go.ChangeShapes Go.WideShapes Go.ChangeAt Go.RowKit Go.Joins 
open Go.ChangeMaps (open_string shut_string)
set_option linter.unusedVariables false

theorem walk (s0 : ByteArray) (a1 : Int) (w : World) (w0 : s0.size ≤ maxLen) (w1 : (Lit.int .i64 a1).wf = true) :
    Calls Try.prog 7 #[.string s0, .int .i64 a1] w fun e w' => e = .returned (.bool true) ∧ Below w.heap.size w w' := by
  cases hr : LX.scan (bs s0) with
  | bad er p => exact rises_a s0 a1 w er p hr (LX.scan_bad_pos hr) (by have := scan_bad_le hr; rw [bs_len] at this; exact this)
  | good ua =>
    obtain ⟨ts, hua, htl⟩ := LX.scan_good_form hr
    have hul : ua.length = ts.length + 1 := by rw [hua]; simp
    by_cases hneg : a1 < 0
    · exact rises_b s0 a1 w ua ts.length hr hul.symm (by omega) hneg
    by_cases hbig : (ua.length : Int) ≤ a1
    · exact rises_c s0 a1 w ua ts.length hr hul.symm (by omega) hbig
    obtain ⟨x, rfl⟩ : ∃ x : Nat, a1 = (x : Int) := ⟨a1.toNat, by omega⟩
    have hx : x < ua.length := by omega
    have hk : ua[x]? = some (ua.getD x tz) := by rw [List.getD_eq_getElem?_getD, List.getElem?_eq_getElem hx]; rfl
    obtain ⟨hpos, hv⟩ := LX.scan_cut (by rw [← hua]; exact hr) (by rw [← hua]; exact hk)
    rw [bs_len] at hpos
    have e1 : bs (s0.extract 0 (ua.getD x tz).pos) = (bs s0).take (ua.getD x tz).pos := by
      rw [ext_take s0 0 _ (ua.getD x tz).pos (by omega)]; rfl
    have e2 : ua.take x = ts.take x := by rw [hua, List.take_append_of_le_length (by omega)]
    exact rises_d s0 x w ua ts.length hr hul.symm (by omega) x _ rfl hx rfl hpos (by rw [e1, e2]; exact hv)

set_option maxRecDepth 100000 in
theorem lifted (os : Os) (started : os.Started) (H : Type) (enc : TypeId × Value → H) :
    ReturnsInHanded {} Try.checked os 7 .any (Rows.lexRisesSpec.pre6 enc Try.prog Try.f7 Rows.lexRisesRow.domain false) (Rows.lexRisesSpec.post enc Try.prog Try.f7 false true false false) := by
  refine returnsInHanded_of_change (C := Try.checked) own started (by kernel_rfl) Try.func7
    (ChangeSpec.witness6 (enc := enc) (C := Try.checked) false ⟨#[], #[.string ⟨#[]⟩, .int .i64 0], []⟩ 8 (by kernel_rfl) (by kernel_rfl) (by kernel_rfl) (by kernel_rfl)) ?_
  intro W base args ds gs before hval0 hW hcnd _
  have hval : ∀ (j : Nat) t v, Try.f7.params[j]? = some t → args[j]? = some v → Value.okWide Try.prog W .any base t v := hval0
  have hW' := hW
  obtain ⟨p, q, hA0, hV, rfl, hfz, hnd⟩ := hW
  have hA : DataW.TrodAll enc Try.prog W 0 (fun _ => true) true Try.f7.params.toList args.toList ds p := hA0
  rw [Try.params7] at hA hval
  obtain ⟨v0, vs0, d0, ds0, p0, q0, hargs, rfl, rfl, h0, r0⟩ := trodAll_cons hA
  obtain ⟨v1, vs1, d1, ds1, p1, q1, rfl, rfl, rfl, h1, r1⟩ := trodAll_cons r0
  obtain ⟨rfl, rfl, rfl⟩ := trodAll_nil r1
  obtain rfl : args = #[v0, v1] := by cases args; simp_all
  obtain ⟨rfl, rfl⟩ := trodVars_none hV
  have k0 := h0
  have lt0 : ∀ x ∈ p0, x.block < W.heap.size := by obtain ⟨m, hm⟩ := k0; exact DataW.trod_lt m _ _ _ hm
  have k1 := h1
  have lt1 : ∀ x ∈ p1, x.block < W.heap.size := by obtain ⟨m, hm⟩ := k1; exact DataW.trod_lt m _ _ _ hm
  obtain ⟨s0, rfl, rfl, rfl, w0⟩ := open_string Try.underlying9 (hval 0 9 v0 rfl rfl) h0
  obtain ⟨a1, rfl, rfl, rfl, w1⟩ := open_int Try.underlying3 (hval 1 3 v1 rfl rfl) h1
  clear hA0 hval0
  refine (walk s0 a1 W w0 w1).mono fun e W' ⟨he, bel⟩ => ?_
  subst he
  exact ⟨_, rfl, _, _, _, [], _, [], hW', trodAll_mk1 (shut_bool Try.underlying4 _), (trodAll_cons_mk (Below.trod laidOut (by kernel_rfl) (of_decide_eq_true (by kernel_rfl)) k0 bel lt0) (trodAll_cons_mk (Below.trod laidOut (by kernel_rfl) (of_decide_eq_true (by kernel_rfl)) k1 bel lt1) trodAll_mk0)), rfl, bel.frame _, fun h => by cases h⟩

theorem over : Rows.lexRisesRow.holds Try.pinned (OpenSpec.ofChange Rows.lexRisesSpec) :=
  OpenClaim.holds_of_wide 7 Try.f7 rfl rfl rfl rfl rfl rfl rfl ⟨rfl, rfl, rfl, rfl, rfl⟩ rfl rfl rfl rfl rfl (by kernel_rfl) Try.func7 (by kernel_rfl)
    (of_decide_eq_true (by kernel_rfl)) (by unfold Func.isWrapper; first | (rw [if_pos (by decide +kernel)]; kernel_rfl) | (rw [if_neg (by decide +kernel)]; exact ⟨rfl, rfl⟩))
    (fun os started H enc _ => lifted os started H enc)

end Go.Proofs.Ytpcepfoebkmbgaa.lexRises
namespace Go.Proofs.Ytpcepfoebkmbgaa
theorem lexRises_holds : Rows.LexRisesSaid := lexRises.over
end Go.Proofs.Ytpcepfoebkmbgaa
