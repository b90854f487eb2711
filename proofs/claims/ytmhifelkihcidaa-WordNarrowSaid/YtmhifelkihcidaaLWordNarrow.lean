/- The statement WordNarrow holds: the law returns true for all its arguments, and they read behind the call as before; no condition. -/
import Derived.Test.YtmhifelkihcidaaPk
import Derived.Test.YtmhifelkihcidaaWExact
import Derived.Test.YtmhifelkihcidaaWNarrow
import Derived.Test.YtmhifelkihcidaaFrame
namespace Go.Proofs.Ytmhifelkihcidaa.wordNarrow
open Go.ChangeShapes Go.WideShapes Go.ChangeAt Go.RowKit Go.Joins WM
open Go.ChangeMaps (open_string shut_string)
set_option linter.unusedVariables false
set_option maxHeartbeats 1600000 in
theorem walk (a0 : Int) (a1 : Int) (a2 : Int) (w : World) (w0 : (Lit.int .i64 a0).wf = true) (w1 : (Lit.int .i64 a1).wf = true) (w2 : (Lit.int .i64 a2).wf = true) :
    Calls Try.prog 11 #[.int .i64 a0, .int .i64 a1, .int .i64 a2] w fun e w' => e = .returned (.bool true) ∧ Below w.heap.size w w' := by
  have h16 : IsBits 16 := Or.inl rfl
  by_cases ho : a0 < 1 ∨ 19 < a0
  · go_enter Try.func11, Try.ntmps11
    go_wp2_with (first | (go_at_call 22; refine (Exact_range _ _ _ _ h16 ho _).mono ?_; rintro e w' ⟨rfl, rfl⟩) | (go_at_call 20; refine (Apply_range _ _ _ _ h16 ho _).mono ?_; rintro e w' ⟨rfl, rfl⟩) | (go_at_call 19; refine (awake_c _).mono ?_; rintro e wa ⟨rfl, hba⟩))
    go_ret
    exact ⟨rfl, (by repeat (first | exact Below.refl _ _ | exact below_alloc _ _ | refine below_back (by assumption) ?_ | refine Below.drew ?_ | refine below_drewN ?_ _ | refine Below.alloc ?_ (by first | exact Nat.le_refl _ | (simp; done) | (simp; omega)) _))⟩
  · by_cases hz : (a0 = 2 ∨ a0 = 3) ∧ nm 16 a2 = 0
    · go_enter Try.func11, Try.ntmps11
      go_wp2_with (first | (go_at_call 22; refine (Exact_zero _ _ _ _ h16 hz.1 hz.2 _).mono ?_; rintro e w' ⟨rfl, rfl⟩) | (go_at_call 20; refine (Apply_zero _ _ _ _ h16 hz.1 hz.2 _).mono ?_; rintro e w' ⟨rfl, rfl⟩) | (go_at_call 19; refine (awake_c _).mono ?_; rintro e wa ⟨rfl, hba⟩))
      go_ret
      exact ⟨rfl, (by repeat (first | exact Below.refl _ _ | exact below_alloc _ _ | refine below_back (by assumption) ?_ | refine Below.drew ?_ | refine below_drewN ?_ _ | refine Below.alloc ?_ (by first | exact Nat.le_refl _ | (simp; done) | (simp; omega)) _))⟩
    · have hk : Okop a0 a2 16 := ⟨Or.inl rfl, by omega, by omega, fun h h0 => hz ⟨h, h0⟩⟩
      cases hx : exw a0 a1 a2 16 with
      | false =>
        go_enter Try.func11, Try.ntmps11
        go_wp2_with (first | (go_at_call 22; refine (Exact_ok _ _ _ _ hk _).mono ?_; rintro e w1 ⟨rfl, hb1⟩) | (go_at_call 20; refine (Apply_ok _ _ _ _ hk _).mono ?_; rintro e w1 ⟨rfl, hb1⟩) | (go_at_call 19; refine (awake_c _).mono ?_; rintro e wa ⟨rfl, hba⟩))
        go_ret
        exact ⟨rfl, (by repeat (first | exact Below.refl _ _ | exact below_alloc _ _ | refine below_back (by assumption) ?_ | refine Below.drew ?_ | refine below_drewN ?_ _ | refine Below.alloc ?_ (by first | exact Nat.le_refl _ | (simp; done) | (simp; omega)) _))⟩
      | true =>
        by_cases c1 : a1 < -32768
        · go_enter Try.func11, Try.ntmps11
          go_wp2_with (first | (go_at_call 22; refine (Exact_ok _ _ _ _ hk _).mono ?_; rintro e w1 ⟨rfl, hb1⟩) | (go_at_call 20; refine (Apply_ok _ _ _ _ hk _).mono ?_; rintro e w1 ⟨rfl, hb1⟩) | (go_at_call 19; refine (awake_c _).mono ?_; rintro e wa ⟨rfl, hba⟩))
          go_ret
          exact ⟨rfl, (by repeat (first | exact Below.refl _ _ | exact below_alloc _ _ | refine below_back (by assumption) ?_ | refine Below.drew ?_ | refine below_drewN ?_ _ | refine Below.alloc ?_ (by first | exact Nat.le_refl _ | (simp; done) | (simp; omega)) _))⟩
        · by_cases c2 : 32767 < a1
          · go_enter Try.func11, Try.ntmps11
            go_wp2_with (first | (go_at_call 22; refine (Exact_ok _ _ _ _ hk _).mono ?_; rintro e w1 ⟨rfl, hb1⟩) | (go_at_call 20; refine (Apply_ok _ _ _ _ hk _).mono ?_; rintro e w1 ⟨rfl, hb1⟩) | (go_at_call 19; refine (awake_c _).mono ?_; rintro e wa ⟨rfl, hba⟩))
            go_ret
            exact ⟨rfl, (by repeat (first | exact Below.refl _ _ | exact below_alloc _ _ | refine below_back (by assumption) ?_ | refine Below.drew ?_ | refine below_drewN ?_ _ | refine Below.alloc ?_ (by first | exact Nat.le_refl _ | (simp; done) | (simp; omega)) _))⟩
          · by_cases c3 : a2 < -32768
            · go_enter Try.func11, Try.ntmps11
              go_wp2_with (first | (go_at_call 22; refine (Exact_ok _ _ _ _ hk _).mono ?_; rintro e w1 ⟨rfl, hb1⟩) | (go_at_call 20; refine (Apply_ok _ _ _ _ hk _).mono ?_; rintro e w1 ⟨rfl, hb1⟩) | (go_at_call 19; refine (awake_c _).mono ?_; rintro e wa ⟨rfl, hba⟩))
              go_ret
              exact ⟨rfl, (by repeat (first | exact Below.refl _ _ | exact below_alloc _ _ | refine below_back (by assumption) ?_ | refine Below.drew ?_ | refine below_drewN ?_ _ | refine Below.alloc ?_ (by first | exact Nat.le_refl _ | (simp; done) | (simp; omega)) _))⟩
            · by_cases c4 : 32767 < a2
              · go_enter Try.func11, Try.ntmps11
                go_wp2_with (first | (go_at_call 22; refine (Exact_ok _ _ _ _ hk _).mono ?_; rintro e w1 ⟨rfl, hb1⟩) | (go_at_call 20; refine (Apply_ok _ _ _ _ hk _).mono ?_; rintro e w1 ⟨rfl, hb1⟩) | (go_at_call 19; refine (awake_c _).mono ?_; rintro e wa ⟨rfl, hba⟩))
                go_ret
                exact ⟨rfl, (by repeat (first | exact Below.refl _ _ | exact below_alloc _ _ | refine below_back (by assumption) ?_ | refine Below.drew ?_ | refine below_drewN ?_ _ | refine Below.alloc ?_ (by first | exact Nat.le_refl _ | (simp; done) | (simp; omega)) _))⟩
              · have hna : -32768 ≤ a1 ∧ a1 ≤ 32767 := by omega
                have hnb : -32768 ≤ a2 ∧ a2 ≤ 32767 := by omega
                have hk2 : ∀ n, IsBits n → Okop a0 a2 n := fun n hn => ⟨hn, hk.2.1, hk.2.2.1, fun h => by rw [nm_nar hn hnb]; have := hk.2.2.2 h; rw [nm_nar h16 hnb] at this; exact this⟩
                have hup : ∀ n, IsBits n → exw a0 a1 a2 n = true ∧ apw a0 a1 a2 n = apw a0 a1 a2 16 := fun n hn => exact_up hn a0 a1 a2 hna hnb hx
                have HK2 := Lib.hid hk2
                have HUP := Lib.hid hup
                clear hk2 hup hna hnb
                go_enter Try.func11, Try.ntmps11
                go_wp2_with (first | (go_at_call 22; refine (Exact_ok _ _ _ _ hk _).mono ?_; rintro e w1 ⟨rfl, hb1⟩) | (go_at_call 20; refine (Apply_ok _ _ _ _ hk _).mono ?_; rintro e w1 ⟨rfl, hb1⟩) | (go_at_call 19; refine (awake_c _).mono ?_; rintro e wa ⟨rfl, hba⟩))
                go_loopw [11] (fun i wr => ∃ b : Int, (b = 24 ∨ b = 32 ∨ b = 40) ∧ i = .int .i64 b ∧ Below w.heap.size w wr) (fun i _ => (40 - intOf i).toNat)
                case atStart => exact ⟨24, Or.inl rfl, rfl, (by repeat (first | exact Below.refl _ _ | exact below_alloc _ _ | refine below_back (by assumption) ?_ | refine Below.drew ?_ | refine below_drewN ?_ _ | refine Below.alloc ?_ (by first | exact Nat.le_refl _ | (simp; done) | (simp; omega)) _))⟩
                case round =>
                  obtain ⟨b, hbb, rfl, hnx⟩ := hrel
                  rcases hbb with rfl | rfl | rfl
                  · have hb24 : IsBits 24 := Or.inr (Or.inl rfl)
                    have hk3 := HK2.out 24 hb24
                    obtain ⟨u1, u2⟩ := HUP.out 24 hb24
                    go_wp2_with (first | (go_at_call 22; refine (Exact_ok _ _ _ _ hk3 _).mono ?_; rintro e w1 ⟨rfl, hb1⟩) | (go_at_call 20; refine (Apply_ok _ _ _ _ hk3 _).mono ?_; rintro e w1 ⟨rfl, hb1⟩))
                    go_roundw
                    case rel => exact ⟨32, by omega, rfl, below_then hnx (by repeat (first | exact Below.refl _ _ | exact below_alloc _ _ | refine below_back (by assumption) ?_ | refine Below.drew ?_ | refine below_drewN ?_ _ | refine Below.alloc ?_ (by first | exact Nat.le_refl _ | (simp; done) | (simp; omega)) _))⟩
                    case measure => simp [intOf]
                  · have hb32 : IsBits 32 := Or.inr (Or.inr rfl)
                    have hk3 := HK2.out 32 hb32
                    obtain ⟨u1, u2⟩ := HUP.out 32 hb32
                    go_wp2_with (first | (go_at_call 22; refine (Exact_ok _ _ _ _ hk3 _).mono ?_; rintro e w1 ⟨rfl, hb1⟩) | (go_at_call 20; refine (Apply_ok _ _ _ _ hk3 _).mono ?_; rintro e w1 ⟨rfl, hb1⟩))
                    go_roundw
                    case rel => exact ⟨40, by omega, rfl, below_then hnx (by repeat (first | exact Below.refl _ _ | exact below_alloc _ _ | refine below_back (by assumption) ?_ | refine Below.drew ?_ | refine below_drewN ?_ _ | refine Below.alloc ?_ (by first | exact Nat.le_refl _ | (simp; done) | (simp; omega)) _))⟩
                    case measure => simp [intOf]
                  · go_wp2_with (first | (go_at_call 19; refine (awake_c _).mono ?_; rintro e wa ⟨rfl, hba⟩))
                    go_ret
                    exact ⟨rfl, below_then hnx (by repeat (first | exact Below.refl _ _ | exact below_alloc _ _ | refine below_back (by assumption) ?_ | refine Below.drew ?_ | refine below_drewN ?_ _ | refine Below.alloc ?_ (by first | exact Nat.le_refl _ | (simp; done) | (simp; omega)) _))⟩

set_option maxRecDepth 100000 in
theorem lifted (os : Os) (started : os.Started) (H : Type) (enc : TypeId × Value → H) :
    ReturnsInHanded {} Try.checked os 11 .any (Rows.wordNarrowSpec.pre6 enc Try.prog Try.f11 Rows.wordNarrowRow.domain false) (Rows.wordNarrowSpec.post enc Try.prog Try.f11 false true false false) := by
  refine returnsInHanded_of_change (C := Try.checked) own started (by kernel_rfl) Try.func11
    (ChangeSpec.witness6 (enc := enc) (C := Try.checked) false ⟨#[], #[.int .i64 0, .int .i64 0, .int .i64 0], []⟩ 8 (by kernel_rfl) (by kernel_rfl) (by kernel_rfl) (by kernel_rfl)) ?_
  intro W base args ds gs before hval0 hW hcnd _
  have hval : ∀ (j : Nat) t v, Try.f11.params[j]? = some t → args[j]? = some v → Value.okWide Try.prog W .any base t v := hval0
  have hW' := hW
  obtain ⟨p, q, hA0, hV, rfl, hfz, hnd⟩ := hW
  have hA : DataW.TrodAll enc Try.prog W 0 (fun _ => true) true Try.f11.params.toList args.toList ds p := hA0
  rw [Try.params11] at hA hval
  obtain ⟨v0, vs0, d0, ds0, p0, q0, hargs, rfl, rfl, h0, r0⟩ := trodAll_cons hA
  obtain ⟨v1, vs1, d1, ds1, p1, q1, rfl, rfl, rfl, h1, r1⟩ := trodAll_cons r0
  obtain ⟨v2, vs2, d2, ds2, p2, q2, rfl, rfl, rfl, h2, r2⟩ := trodAll_cons r1
  obtain ⟨rfl, rfl, rfl⟩ := trodAll_nil r2
  obtain rfl : args = #[v0, v1, v2] := by cases args; simp_all
  obtain ⟨rfl, rfl⟩ := trodVars_none hV
  have k0 := h0
  have lt0 : ∀ x ∈ p0, x.block < W.heap.size := by obtain ⟨m, hm⟩ := k0; exact DataW.trod_lt m _ _ _ hm
  have k1 := h1
  have lt1 : ∀ x ∈ p1, x.block < W.heap.size := by obtain ⟨m, hm⟩ := k1; exact DataW.trod_lt m _ _ _ hm
  have k2 := h2
  have lt2 : ∀ x ∈ p2, x.block < W.heap.size := by obtain ⟨m, hm⟩ := k2; exact DataW.trod_lt m _ _ _ hm
  obtain ⟨a0, rfl, rfl, rfl, w0⟩ := open_int Try.underlying3 (hval 0 3 v0 rfl rfl) h0
  obtain ⟨a1, rfl, rfl, rfl, w1⟩ := open_int Try.underlying3 (hval 1 3 v1 rfl rfl) h1
  obtain ⟨a2, rfl, rfl, rfl, w2⟩ := open_int Try.underlying3 (hval 2 3 v2 rfl rfl) h2
  clear hA0 hval0
  refine (walk a0 a1 a2 W w0 w1 w2).mono fun e W' ⟨he, bel⟩ => ?_
  subst he
  exact ⟨_, rfl, _, _, _, [], _, [], hW', trodAll_mk1 (shut_bool Try.underlying4 _), (trodAll_cons_mk (Below.trod laidOut (by kernel_rfl) (of_decide_eq_true (by kernel_rfl)) k0 bel lt0) (trodAll_cons_mk (Below.trod laidOut (by kernel_rfl) (of_decide_eq_true (by kernel_rfl)) k1 bel lt1) (trodAll_cons_mk (Below.trod laidOut (by kernel_rfl) (of_decide_eq_true (by kernel_rfl)) k2 bel lt2) trodAll_mk0))), rfl, bel.frame _, fun h => by cases h⟩

theorem over : Rows.wordNarrowRow.holds Try.pinned (OpenSpec.ofChange Rows.wordNarrowSpec) :=
  OpenClaim.holds_of_wide 11 Try.f11 rfl rfl rfl rfl rfl rfl rfl ⟨rfl, rfl, rfl, rfl, rfl⟩ rfl rfl rfl rfl rfl (by kernel_rfl) Try.func11 (by kernel_rfl)
    (of_decide_eq_true (by kernel_rfl)) (by unfold Func.isWrapper; first | (rw [if_pos (by decide +kernel)]; kernel_rfl) | (rw [if_neg (by decide +kernel)]; exact ⟨rfl, rfl⟩))
    (fun os started H enc _ => lifted os started H enc)

end Go.Proofs.Ytmhifelkihcidaa.wordNarrow
namespace Go.Proofs.Ytmhifelkihcidaa
theorem wordNarrow_holds : Rows.WordNarrowSaid := wordNarrow.over
end Go.Proofs.Ytmhifelkihcidaa
