/- The statement LexFirst holds: the law returns true for all its arguments, and they read behind the call as before; no condition. -/
import Derived.Test.YtpcepfoebkmbgaaLxLawS
import Derived.Test.YtpcepfoebkmbgaaFrame
import Derived.HandedShaped
import Derived.SizedLaws
namespace Go.Proofs.Ytpcepfoebkmbgaa.lexFirst
open Go.ChangeShapes Go.WideShapes Go.ChangeAt Go.RowKit Go.Joins 
open Go.ChangeMaps (open_string shut_string)
set_option linter.unusedVariables false
set_option maxHeartbeats 2000000 in
theorem walk (s0 : ByteArray) (s1 : ByteArray) (w : World) (w0 : s0.size ≤ 140737488351232) (w1 : s1.size ≤ 140737488351232) :
    Calls Try.prog 9 #[.string s0, .string s1] w fun e w' => e = .returned (.bool true) ∧ Below w.heap.size w w' := by
  have hsum : (s0.size : Int) + (s1.size : Int) ≤ 281474976702464 := by omega
  by_cases h40 : 40000 ≤ s0.size + s1.size
  · have g1 : decide ((40000 : Int) ≤ (s0.size : Int) + (s1.size : Int)) = true := by rw [decide_eq_true_iff]; omega
    clear h40
    go_enter Try.func9, Try.ntmps9
    go_wp2_with (go_at_call 13; refine (awake_c _).mono ?_; rintro e W9 ⟨rfl, hb9⟩)
    go_ret
    exact ⟨rfl, hb9⟩
  have g1 : decide ((40000 : Int) ≤ (s0.size : Int) + (s1.size : Int)) = false := by rw [decide_eq_false_iff_not]; omega
  have hl : (bs s0).length + (bs s1).length < 40000 := by rw [bs_len, bs_len]; omega
  have hcat : bs (s0 ++ ⟨#[10]⟩ ++ s1) = bs s0 ++ 10 :: bs s1 := bs_cat s0 s1
  cases hr : LX.scan (bs s0) with
  | good ts =>
    have HC1 := Lib.hid (fun W => Scan_good hr W)
    have HC2 := Lib.hid (fun W => Scan_any (s0 ++ ⟨#[10]⟩ ++ s1) W)
    clear hr hl hcat h40
    go_enter Try.func9, Try.ntmps9
    go_wp2_with (first
      | (go_at_call 10; have _t := tokA; refine (HC2.out _).mono ?_; rintro e W2 ⟨v2, er2, p2, rfl, hb2⟩; clear HC2 tokA)
      | (go_at_call 10; refine (HC1.out _).mono ?_; rintro e W1 ⟨v1, rfl, hr1, hb1⟩; clear HC1 hr1; have tokA : True := trivial)
      | (go_at_call 13; refine (awake_c _).mono ?_; rintro e W9 ⟨rfl, hb9⟩))
    go_ret
    exact ⟨rfl, below_then hb1 (below_then hb2 hb9)⟩
  | bad er p =>
    have HC1 := Lib.hid (fun W => Scan_bad hr W)
    have hpos := LX.scan_bad_pos hr
    have e0 : ((er : Int) == 0) = false := by simp; omega
    by_cases hx : er = 2 ∧ p = s0.size
    · obtain ⟨hx1, hx2⟩ := hx
      have e1 : ((er : Int) == 2) = true := by simp; omega
      have e2 : ((p : Int) == (s0.size : Int)) = true := by simp; omega
      have HC2 := Lib.hid (fun W => Scan_any (s0 ++ ⟨#[10]⟩ ++ s1) W)
      clear hr hl hcat h40 hx1 hx2 hpos
      go_enter Try.func9, Try.ntmps9
      go_wp2_with (first
        | (go_at_call 10; refine (HC1.out _).mono ?_; rintro e W1 ⟨rfl, hb1⟩; clear HC1)
        | (go_at_call 10; refine (HC2.out _).mono ?_; rintro e W2 ⟨v2, er2, p2, rfl, hb2⟩; clear HC2)
        | (go_at_call 13; refine (awake_c _).mono ?_; rintro e W9 ⟨rfl, hb9⟩))
      go_ret
      exact ⟨rfl, below_then hb1 (below_then hb2 hb9)⟩
    · have hr2 : LX.scan (bs (s0 ++ ⟨#[10]⟩ ++ s1)) = .bad er p := by rw [hcat]; exact LX.scan_first hr hl (by rw [bs_len]; exact hx)
      have HC2 := Lib.hid (fun W => Scan_bad hr2 W)
      by_cases he2 : er = 2
      · have e1 : ((er : Int) == 2) = true := by simp; omega
        have e2 : ((p : Int) == (s0.size : Int)) = false := by simp; omega
        clear hr hl hcat h40 hx hpos hr2 he2
        go_enter Try.func9, Try.ntmps9
        go_wp2_with (first
          | (go_at_call 10; refine (HC1.out _).mono ?_; rintro e W1 ⟨rfl, hb1⟩; clear HC1)
          | (go_at_call 10; refine (HC2.out _).mono ?_; rintro e W2 ⟨rfl, hb2⟩; clear HC2)
          | (go_at_call 13; refine (awake_c _).mono ?_; rintro e W9 ⟨rfl, hb9⟩))
        go_ret
        exact ⟨rfl, below_then hb1 (below_then hb2 hb9)⟩
      · have e1 : ((er : Int) == 2) = false := by simp; omega
        clear hr hl hcat h40 hx hpos hr2 he2
        go_enter Try.func9, Try.ntmps9
        go_wp2_with (first
          | (go_at_call 10; refine (HC1.out _).mono ?_; rintro e W1 ⟨rfl, hb1⟩; clear HC1)
          | (go_at_call 10; refine (HC2.out _).mono ?_; rintro e W2 ⟨rfl, hb2⟩; clear HC2)
          | (go_at_call 13; refine (awake_c _).mono ?_; rintro e W9 ⟨rfl, hb9⟩))
        go_ret
        exact ⟨rfl, below_then hb1 (below_then hb2 hb9)⟩

set_option maxRecDepth 100000 in
theorem lifted (os : Os) (started : os.Started) (H : Type) (enc : TypeId × Value → H) :
    ReturnsInHanded {} Try.checked os 9 .any (Rows.lexFirstSpec.pre6 enc Try.prog Try.f9 Rows.lexFirstRow.domain false) (Rows.lexFirstSpec.post enc Try.prog Try.f9 false true false false) := by
  refine returnsInHanded_of_change_shaped (C := Try.checked) own started (by kernel_rfl) Try.func9
    (ChangeSpec.witness6 (enc := enc) (C := Try.checked) false ⟨#[], #[.string ⟨#[]⟩, .string ⟨#[]⟩], []⟩ 8 (by kernel_rfl) (by kernel_rfl) (by kernel_rfl) (by kernel_rfl)) ?_
  intro W base args ds gs before hval0 hW hcnd hsz0 hshape _
  have hsz : (DataW.weightsEach Try.prog (Try.f9.params.toList ++ Rows.lexFirstSpec.plain.varTypes Try.prog) (ds ++ gs)).all (· ≤ reachBytes) = true := hsz0
  have hval : ∀ (j : Nat) t v, Try.f9.params[j]? = some t → args[j]? = some v → Value.okWide Try.prog W .any base t v := hval0
  have hW' := hW
  obtain ⟨p, q, hA0, hV, rfl, hfz, hnd⟩ := hW
  have hA : DataW.TrodAll enc Try.prog W 0 (fun _ => true) true Try.f9.params.toList args.toList ds p := hA0
  rw [Try.params9] at hA hval hsz
  obtain ⟨v0, vs0, d0, ds0, p0, q0, hargs, rfl, rfl, h0, r0⟩ := trodAll_cons hA
  obtain ⟨v1, vs1, d1, ds1, p1, q1, rfl, rfl, rfl, h1, r1⟩ := trodAll_cons r0
  obtain ⟨rfl, rfl, rfl⟩ := trodAll_nil r1
  obtain rfl : args = #[v0, v1] := by cases args; simp_all
  obtain ⟨rfl, rfl⟩ := trodVars_none hV
  have k0 := h0
  have lt0 : ∀ x ∈ p0, x.block < W.heap.size := by obtain ⟨m, hm⟩ := k0; exact DataW.trod_lt m _ _ _ hm
  have k1 := h1
  have lt1 : ∀ x ∈ p1, x.block < W.heap.size := by obtain ⟨m, hm⟩ := k1; exact DataW.trod_lt m _ _ _ hm
  obtain ⟨s0, rfl, rfl, rfl, w0⟩ := open_string Try.underlying9 (hval 0 9 v0 rfl rfl) h0
  obtain ⟨s1, rfl, rfl, rfl, w1⟩ := open_string Try.underlying9 (hval 1 9 v1 rfl rfl) h1
  have z0 : s0.size ≤ 140737488351232 := by
    have h := sized_string hsz (j := 0) (t := 9) rfl rfl
    have e : s0.data.toList.length = s0.size := by cases s0; simp [ByteArray.size]
    simp only [reachBytes] at h; omega
  have z1 : s1.size ≤ 140737488351232 := by
    have h := sized_string hsz (j := 1) (t := 9) rfl rfl
    have e : s1.data.toList.length = s1.size := by cases s1; simp [ByteArray.size]
    simp only [reachBytes] at h; omega
  clear hA0 hval0
  refine (walk s0 s1 W z0 z1).mono fun e W' ⟨he, bel⟩ => ?_
  subst he
  exact ⟨_, rfl, _, _, _, [], _, [], hW', trodAll_mk1 (shut_bool Try.underlying4 _), (trodAll_cons_mk (Below.trod laidOut (by kernel_rfl) (of_decide_eq_true (by kernel_rfl)) k0 bel lt0) (trodAll_cons_mk (Below.trod laidOut (by kernel_rfl) (of_decide_eq_true (by kernel_rfl)) k1 bel lt1) trodAll_mk0)), rfl, bel.frame _, fun h => by cases h⟩

theorem over : Rows.lexFirstRow.holds Try.pinned (OpenSpec.ofChange Rows.lexFirstSpec) :=
  OpenClaim.holds_of_wide 9 Try.f9 rfl rfl rfl rfl rfl rfl rfl ⟨rfl, rfl, rfl, rfl, rfl⟩ rfl rfl rfl rfl rfl (by kernel_rfl) Try.func9 (by kernel_rfl)
    (of_decide_eq_true (by kernel_rfl)) (by unfold Func.isWrapper; first | (rw [if_pos (by decide +kernel)]; kernel_rfl) | (rw [if_neg (by decide +kernel)]; exact ⟨rfl, rfl⟩))
    (fun os started H enc _ => lifted os started H enc)

end Go.Proofs.Ytpcepfoebkmbgaa.lexFirst
namespace Go.Proofs.Ytpcepfoebkmbgaa
theorem lexFirst_holds : Rows.LexFirstSaid := lexFirst.over
end Go.Proofs.Ytpcepfoebkmbgaa
