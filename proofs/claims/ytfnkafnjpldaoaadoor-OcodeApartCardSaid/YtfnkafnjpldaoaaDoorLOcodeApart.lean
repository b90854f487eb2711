/- The card of the statement OcodeApart holds: the law returns true for all its arguments, and they read behind the call as before; the table of instructions that the row lists is tied to the program's text. -/
import Derived.Test.YtfnkafnjpldaoaaDoorOcLd
import Derived.Test.YtfnkafnjpldaoaaDoorOcAw
import Derived.Test.YtfnkafnjpldaoaaDoorOcLw
import Derived.Test.YtfnkafnjpldaoaaDoorOcRq
import Derived.Test.YtfnkafnjpldaoaaDoorOcWo
import Derived.HandedShaped
namespace Go.Proofs.YtfnkafnjpldaoaaDoor.ocodeApart
open Go.ChangeShapes Go.WideShapes Go.ChangeAt Go.RowKit Go.Joins 
open Go.ChangeMaps (open_string shut_string)
set_option linter.unusedVariables false
set_option linter.unusedSimpArgs false
set_option maxRecDepth 100000
set_option maxRecDepth 100000 in
set_option maxHeartbeats 8000000 in
theorem walk (c0 : OC.Code) (da0 oa0 ga0 : Option Addr) (dl0 dc0 ol0 oc0 gl0 gc0 : Nat) (a1 : Int) (w : World) (w0 : CodeIn w c0 da0 oa0 ga0 dl0 dc0 ol0 oc0 gl0 gc0) (z0 : OkC c0) (w1 : (Lit.int .i64 a1).wf = true) (hi : InstAt w) :
    Calls Tryd.prog 3 #[codeV c0 da0 oa0 ga0 dl0 dc0 ol0 oc0 gl0 gc0, .int .i64 a1] w fun e w' => e = .returned (.bool true) ∧ Below w.heap.size w w' := by
  have HC := Lib.hid (CodeI.mk w0 hi)
  have htx : ∀ d ∈ c0.data, d.text.length ≤ 140737488351232 := fun d hd => (z0.data d hd).1
  have HV : Hid (∀ W, CodeI W c0 da0 oa0 ga0 dl0 dc0 ol0 oc0 gl0 gc0 → Calls Tryd.prog 4 #[codeV c0 da0 oa0 ga0 dl0 dc0 ol0 oc0 gl0 gc0] W fun e w' => e = .returned (.bool (heavyC c0 40100)) ∧ Below W.heap.size W w') := fun W hW => heavy_c c0 da0 oa0 ga0 dl0 dc0 ol0 oc0 gl0 gc0 W hW.toCodeIn htx
  by_cases hh : heavyC c0 40100 = true
  · rw [hh] at HV
    obtain ⟨name, data, ops, globals, procs, labels⟩ := c0
    clear w0 z0 hh htx
    go_enter Tryd.func3, Tryd.ntmps3
    go_wp2_with (first
      | (go_at_call 4; refine (HV.out _ (HC.out.keep (below_alloc _ _))).mono ?_; rintro e w1 ⟨rfl, hb1⟩; obtain ⟨hcc1, hff1⟩ := bcell hb1; have z1 := hb1.size; have zw1 : w.heap.size < w1.heap.size := (by first | omega | (simp at z1; omega)))
      | (go_at_call 5; refine (awake_c _ (HC.out.inst.keep (by repeat (first | assumption | exact HL4.out | exact HL2.out | exact HL1.out | exact below_then HL3.out hbl | exact Below.refl _ _ | exact below_alloc _ _ | refine below_back (by assumption) ?_ | refine below_then ?_ (below_alloc _ _) | refine Below.drew ?_ | refine below_drewN ?_ _ | refine below_then ?_ hb9 | refine below_then ?_ hb8 | refine below_then ?_ hb7 | refine below_then ?_ hb6 | refine below_then ?_ hb5 | refine below_then ?_ hb4 | refine below_then ?_ hb3 | refine below_then ?_ hb2 | refine below_then ?_ hb1 | exact HBL.out | exact HBW.out | exact HL.out)) (Nat.le_refl _))).mono ?_; rintro e w2 ⟨rfl, hb2⟩; obtain ⟨hcc2, hff2⟩ := bcell hb2; have z2 := hb2.size; have zw2 : w.heap.size < w2.heap.size := (by first | omega | (simp at z2; omega))))
    go_ret
    exact ⟨rfl, (by repeat (first | exact Below.refl _ _ | exact below_alloc _ _ | refine below_then ?_ (below_alloc _ _) | refine Below.drew ?_ | refine below_drewN ?_ _ | refine below_then ?_ hb9 | refine below_then ?_ hb8 | refine below_then ?_ hb7 | refine below_then ?_ hb6 | refine below_then ?_ hb5 | refine below_then ?_ hb4 | refine below_then ?_ hb3 | refine below_then ?_ hb2 | refine below_then ?_ hb1))⟩
  have hs : Small c0 := small_of (by simpa using hh)
  rw [Bool.not_eq_true] at hh
  rw [hh] at HV
  have HS := Lib.hid hs
  by_cases hk0 : a1 < 0
  · obtain ⟨name, data, ops, globals, procs, labels⟩ := c0
    clear w0 z0 htx hs
    go_enter Tryd.func3, Tryd.ntmps3
    go_wp2_with (first
      | (go_at_call 4; refine (HV.out _ (HC.out.keep (below_alloc _ _))).mono ?_; rintro e w1 ⟨rfl, hb1⟩; have HB1 := Lib.hid ((BoxC.new w ⟨name, data, ops, globals, procs, labels⟩ da0 oa0 ga0 dl0 dc0 ol0 oc0 gl0 gc0 26).keep hb1 (by simp)); have HL1 := Lib.hid (below_then (below_alloc _ _) hb1); obtain ⟨c0, c1, c2, c3, c4, c5⟩ := HB1.out)
      | (go_at_call 5; refine (awake_c _ (HC.out.inst.keep (by repeat (first | assumption | exact HL4.out | exact HL2.out | exact HL1.out | exact below_then HL3.out hbl | exact Below.refl _ _ | exact below_alloc _ _ | refine below_back (by assumption) ?_ | refine below_then ?_ (below_alloc _ _) | refine Below.drew ?_ | refine below_drewN ?_ _ | refine below_then ?_ hb9 | refine below_then ?_ hb8 | refine below_then ?_ hb7 | refine below_then ?_ hb6 | refine below_then ?_ hb5 | refine below_then ?_ hb4 | refine below_then ?_ hb3 | refine below_then ?_ hb2 | refine below_then ?_ hb1 | exact HBL.out | exact HBW.out | exact HL.out)) (Nat.le_refl _))).mono ?_; rintro e w2 ⟨rfl, hb2⟩))
    go_ret
    exact ⟨rfl, below_then HL1.out hb2⟩
  have hk1 : 0 ≤ a1 := by omega
  have hk2 : decide (a1 < 0) = false := by simpa using hk1
  by_cases hE : checkE c0 = 0
  case neg =>
    obtain ⟨E, hE2⟩ : ∃ E, checkQ c0 = E := ⟨_, rfl⟩
    have hE3 : E ≠ 0 := fun h => hE ((checkQ_zero c0).1 (hE2.trans h))
    have ee : ((E : Int) != 0) = true := by simp; omega
    have HJ : Hid (∀ W, CodeI W c0 da0 oa0 ga0 dl0 dc0 ol0 oc0 gl0 gc0 → Calls Tryd.prog 6 #[codeV c0 da0 oa0 ga0 dl0 dc0 ol0 oc0 gl0 gc0] W fun e w' => ListE [] E e w' ∧ Below W.heap.size W w') := fun W hW => by have h := DepthsP_c c0 da0 oa0 ga0 dl0 dc0 ol0 oc0 gl0 gc0 W hW.toCodeIn hs hW.inst; rw [depA, if_neg hE, hE2] at h; exact h
    obtain ⟨name, data, ops, globals, procs, labels⟩ := c0
    clear w0 z0 htx hs hE hE2 hk0
    go_enter Tryd.func3, Tryd.ntmps3
    go_wp2_with (first
      | (go_at_call 4; refine (HV.out _ (HC.out.keep (below_alloc _ _))).mono ?_; rintro e w1 ⟨rfl, hb1⟩; have HB1 := Lib.hid ((BoxC.new w ⟨name, data, ops, globals, procs, labels⟩ da0 oa0 ga0 dl0 dc0 ol0 oc0 gl0 gc0 26).keep hb1 (by simp)); have HL1 := Lib.hid (below_then (below_alloc _ _) hb1); obtain ⟨c0, c1, c2, c3, c4, c5⟩ := HB1.out)
      | (go_at_call 6; refine (HJ.out _ (HC.out.keep HL1.out)).mono ?_; rintro e w2 ⟨⟨v2, rfl, hr2⟩, hb2⟩; have HB2 := Lib.hid (HB1.out.keep hb2 HB1.out.lt); have HL2 := Lib.hid (below_then HL1.out hb2); clear c0 c1 c2 c3 c4 c5; obtain ⟨c0, c1, c2, c3, c4, c5⟩ := HB2.out)
      | (go_at_call 5; refine (awake_c _ (HC.out.inst.keep (by repeat (first | assumption | exact HL4.out | exact HL2.out | exact HL1.out | exact below_then HL3.out hbl | exact Below.refl _ _ | exact below_alloc _ _ | refine below_back (by assumption) ?_ | refine below_then ?_ (below_alloc _ _) | refine Below.drew ?_ | refine below_drewN ?_ _ | refine below_then ?_ hb9 | refine below_then ?_ hb8 | refine below_then ?_ hb7 | refine below_then ?_ hb6 | refine below_then ?_ hb5 | refine below_then ?_ hb4 | refine below_then ?_ hb3 | refine below_then ?_ hb2 | refine below_then ?_ hb1 | exact HBL.out | exact HBW.out | exact HL.out)) (Nat.le_refl _))).mono ?_; rintro e w3 ⟨rfl, hb3⟩))
    go_ret
    exact ⟨rfl, below_then HL2.out hb3⟩
  obtain ⟨D, hD⟩ : ∃ D, depG 0 c0.ops = D := ⟨_, rfl⟩
  have HJ : Hid (∀ W, CodeI W c0 da0 oa0 ga0 dl0 dc0 ol0 oc0 gl0 gc0 → Calls Tryd.prog 6 #[codeV c0 da0 oa0 ga0 dl0 dc0 ol0 oc0 gl0 gc0] W fun e w' => ListE D 0 e w' ∧ Below W.heap.size W w') := fun W hW => by have h := DepthsP_c c0 da0 oa0 ga0 dl0 dc0 ol0 oc0 gl0 gc0 W hW.toCodeIn hs hW.inst; rw [depA, if_pos hE, (checkQ_zero c0).2 hE, hD] at h; exact h
  obtain ⟨hnum, hord, _, _, hp0, hp1, t, _, _, hdp⟩ := checkE_ok hE
  by_cases hp2 : c0.procs < 2
  · obtain ⟨name, data, ops, globals, procs, labels⟩ := c0
    dsimp only at hp2 hp0 hp1
    clear w0 z0 htx hs hE hD hk0 hnum hord hdp
    go_enter Tryd.func3, Tryd.ntmps3
    go_wp2_with (first
      | (go_at_call 4; refine (HV.out _ (HC.out.keep (below_alloc _ _))).mono ?_; rintro e w1 ⟨rfl, hb1⟩; have HB1 := Lib.hid ((BoxC.new w ⟨name, data, ops, globals, procs, labels⟩ da0 oa0 ga0 dl0 dc0 ol0 oc0 gl0 gc0 26).keep hb1 (by simp)); have HL1 := Lib.hid (below_then (below_alloc _ _) hb1); obtain ⟨c0, c1, c2, c3, c4, c5⟩ := HB1.out)
      | (go_at_call 6; refine (HJ.out _ (HC.out.keep HL1.out)).mono ?_; rintro e w2 ⟨⟨v2, rfl, hr2⟩, hb2⟩; have HB2 := Lib.hid (HB1.out.keep hb2 HB1.out.lt); have HL2 := Lib.hid (below_then HL1.out hb2); clear c0 c1 c2 c3 c4 c5; obtain ⟨c0, c1, c2, c3, c4, c5⟩ := HB2.out)
      | (go_at_call 5; refine (awake_c _ (HC.out.inst.keep (by repeat (first | assumption | exact HL4.out | exact HL2.out | exact HL1.out | exact below_then HL3.out hbl | exact Below.refl _ _ | exact below_alloc _ _ | refine below_back (by assumption) ?_ | refine below_then ?_ (below_alloc _ _) | refine Below.drew ?_ | refine below_drewN ?_ _ | refine below_then ?_ hb9 | refine below_then ?_ hb8 | refine below_then ?_ hb7 | refine below_then ?_ hb6 | refine below_then ?_ hb5 | refine below_then ?_ hb4 | refine below_then ?_ hb3 | refine below_then ?_ hb2 | refine below_then ?_ hb1 | exact HBL.out | exact HBW.out | exact HL.out)) (Nat.le_refl _))).mono ?_; rintro e w3 ⟨rfl, hb3⟩))
    go_ret
    exact ⟨rfl, below_then HL2.out hb3⟩
  have hp3 : decide (c0.procs < 2) = false := by simpa using (show 2 ≤ c0.procs by omega)
  obtain ⟨q, hqe, hqb⟩ : ∃ q : Nat, a1 % c0.procs = (q : Int) ∧ (q : Int) < c0.procs := by
    have h1 := Int.emod_nonneg a1 (show c0.procs ≠ 0 by omega)
    have h2 := Int.emod_lt_of_pos a1 (show 0 < c0.procs by omega)
    exact ⟨(a1 % c0.procs).toNat, by omega, by omega⟩
  obtain ⟨p, hpe⟩ : ∃ p, (q : Int) + 1 = p := ⟨_, rfl⟩
  have hpb : 1 ≤ p ∧ p ≤ c0.procs := by omega
  have hpn : (p - 1).toNat = q := by omega
  obtain ⟨hok, hen, hdw, hrw⟩ := wth_ok (p := p) hE hpb.1 hpb.2 (by omega)
  rw [hD] at hdw
  obtain ⟨M, hM⟩ : ∃ M, roomG c0.ops D [] = M := ⟨_, rfl⟩
  rw [hdw, hD, hM, hpn] at hrw
  obtain ⟨D2, hD2⟩ : ∃ D2, dsl p 0 c0.ops D = D2 := ⟨_, rfl⟩
  rw [hD2] at hdw hrw
  obtain ⟨X, hX⟩ : ∃ X, wthC c0 p = X := ⟨_, rfl⟩
  have hXo : X.ops = wth p 0 c0.ops := by rw [← hX]; rfl
  rw [hX] at hok
  rw [← hXo] at hdw hrw
  have hsX : Small X := by rw [← hX]; exact ⟨Nat.le_trans (wth_len p c0.ops 0) hs.ops, Nat.zero_le _, hs.weight⟩
  have HW : Hid (∀ W, CodeI W c0 da0 oa0 ga0 dl0 dc0 ol0 oc0 gl0 gc0 → Calls Tryd.prog 7 #[codeV c0 da0 oa0 ga0 dl0 dc0 ol0 oc0 gl0 gc0, .int .i64 p] W fun e w' => (∃ da' oa' dl' dc' ol' oc', e = .returned (codeV X da' oa' none dl' dc' ol' oc' 0 0) ∧ CodeI w' X da' oa' none dl' dc' ol' oc' 0 0) ∧ Below W.heap.size W w') := fun W hW => (without_c c0 p da0 oa0 ga0 dl0 dc0 ol0 oc0 gl0 gc0 W hW.toCodeIn hs hE hpb.1 hpb.2).mono fun e w' h => by
    obtain ⟨⟨x1, x2, x3, x4, x5, x6, he, hw⟩, hb⟩ := h
    rw [hX] at he hw
    exact ⟨⟨x1, x2, x3, x4, x5, x6, he, ⟨hw, hW.inst.keep hb (Nat.le_refl _)⟩⟩, hb⟩
  have HD2 : Hid (∀ W b1 b2 b3 k1 l1 k2 l2 k3 l3, CodeI W X b1 b2 b3 k1 l1 k2 l2 k3 l3 → Calls Tryd.prog 6 #[codeV X b1 b2 b3 k1 l1 k2 l2 k3 l3] W fun e w' => ListE D2 0 e w' ∧ Below W.heap.size W w') := fun W b1 b2 b3 k1 l1 k2 l2 k3 l3 hW => by have h := DepthsP_c X b1 b2 b3 k1 l1 k2 l2 k3 l3 W hW.toCodeIn hsX hW.inst; rw [depA, if_pos hok, (checkQ_zero X).2 hok, hdw] at h; exact h
  have HR1 : Hid (∀ W, CodeI W c0 da0 oa0 ga0 dl0 dc0 ol0 oc0 gl0 gc0 → Calls Tryd.prog 8 #[codeV c0 da0 oa0 ga0 dl0 dc0 ol0 oc0 gl0 gc0] W fun e w' => ListF M 0 e w' ∧ Below W.heap.size W w') := fun W hW => by have h := RoomF_c c0 da0 oa0 ga0 dl0 dc0 ol0 oc0 gl0 gc0 W hW.toCodeIn hs hW.inst; rw [roomA, if_pos hE, (checkQ_zero c0).2 hE, hD, hM] at h; exact h
  obtain ⟨M2, hM2⟩ : ∃ M2, M.eraseIdx q = M2 := ⟨_, rfl⟩
  rw [hM2] at hrw
  have HR2 : Hid (∀ W b1 b2 b3 k1 l1 k2 l2 k3 l3, CodeI W X b1 b2 b3 k1 l1 k2 l2 k3 l3 → Calls Tryd.prog 8 #[codeV X b1 b2 b3 k1 l1 k2 l2 k3 l3] W fun e w' => ListE M2 0 e w' ∧ Below W.heap.size W w') := fun W b1 b2 b3 k1 l1 k2 l2 k3 l3 hW => by have h := RoomP_c X b1 b2 b3 k1 l1 k2 l2 k3 l3 W hW.toCodeIn hsX hW.inst; rw [roomA, if_pos hok, (checkQ_zero X).2 hok, hdw, hrw] at h; exact h
  obtain ⟨hol, hoc, _⟩ := w0.ops.len
  have hol2 := hs.ops
  rw [← hol] at hol2
  have hDl : D.length = ol0 := by rw [← hD, depG_len, ← hol]
  have hMl : (M.length : Int) = c0.procs := by
    have h1 := orderB_procs c0.ops _ _ _ _ _ _ _ (by simpa [OC.orderOk] using hord)
    have h2 := roomG_len c0.ops D [] (by rw [hDl, ← hol]; exact Nat.le_refl _)
    rw [hM] at h2
    simp at h2
    omega
  have HO := Lib.hid hol
  have HDL := Lib.hid hDl
  obtain ⟨pr, hpr⟩ : ∃ n : Nat, M.length = n := ⟨_, rfl⟩
  rw [hpr] at hMl
  have HML := Lib.hid hpr
  have HD2E := Lib.hid hD2
  have HM2E := Lib.hid hM2
  obtain ⟨hpb1, hpb2⟩ := hpb
  clear hpn
  subst hpe
  obtain ⟨name, data, ops, globals, procs, labels⟩ := c0
  obtain ⟨xn, xd, xo, xg, xp, xl⟩ := X
  dsimp only at *
  subst hMl
  have hprb : pr ≤ 200 := by omega
  have hpr2 : 2 ≤ pr := by omega
  have hpr0 : ¬ ((pr : Int) = 0) := by omega
  clear w0 z0 htx hs hE hD hM hnum hord hdp hol hDl hpr hp0 hok hen hdw hrw hX hXo hsX hD2 hM2 hk0 hp2
  have tka : True := trivial
  go_enter Tryd.func3, Tryd.ntmps3
  go_wp2_with (first
    | (go_at_call 4; refine (HV.out _ (HC.out.keep (below_alloc _ _))).mono ?_; rintro e w1 ⟨rfl, hb1⟩; have HB1 := Lib.hid ((BoxC.new w ⟨name, data, ops, globals, (pr : Int), labels⟩ da0 oa0 ga0 dl0 dc0 ol0 oc0 gl0 gc0 26).keep hb1 (by simp)); have HL1 := Lib.hid (below_then (below_alloc _ _) hb1); obtain ⟨c0, c1, c2, c3, c4, c5⟩ := HB1.out)
    | (go_at_call 6; have _t := tka; clear _t tka; have tkb : True := trivial; refine (HJ.out _ (HC.out.keep HL1.out)).mono ?_; rintro e w2 ⟨⟨v2, rfl, hr2⟩, hb2⟩; have HB2 := Lib.hid (HB1.out.keep hb2 HB1.out.lt); have HL2 := Lib.hid (below_then HL1.out hb2); clear c0 c1 c2 c3 c4 c5; obtain ⟨c0, c1, c2, c3, c4, c5⟩ := HB2.out; have G2 := Lib.hid hr2; clear hr2)
    | (go_at_call 7; have _t := tkb; clear _t tkb; have tkc : True := trivial; refine (HW.out _ (HC.out.keep HL2.out)).mono ?_; rintro e w3 ⟨⟨xa, xb, xdl, xdc, xol, xoc, rfl, hr3⟩, hb3⟩; have HB3 := Lib.hid (HB2.out.keep hb3 HB2.out.lt); have HL3 := Lib.hid (below_then HL2.out hb3); clear c0 c1 c2 c3 c4 c5; obtain ⟨c0, c1, c2, c3, c4, c5⟩ := HB3.out; have G2 := Lib.hid (G2.out.keep hb3); have G3 := Lib.hid hr3; clear hr3)
    | (go_at_call 6; have _t := tkc; clear _t tkc; have tkd : True := trivial; refine (HD2.out _ _ _ _ _ _ _ _ _ _ G3.out).mono ?_; rintro e w4 ⟨⟨v4, rfl, hr4⟩, hb4⟩; have HB4 := Lib.hid (HB3.out.keep hb4 HB3.out.lt); have HL4 := Lib.hid (below_then HL3.out hb4); clear c0 c1 c2 c3 c4 c5; obtain ⟨c0, c1, c2, c3, c4, c5⟩ := HB4.out; have G2 := Lib.hid (G2.out.keep hb4); have G4 := Lib.hid hr4; clear hr4)
    | (go_at_call 8; have _t := tkd; clear _t tkd; have tke : True := trivial; refine (HR1.out _ (HC.out.keep HL4.out)).mono ?_; rintro e w5 ⟨⟨ra, rc, rfl, hrcap, hr5⟩, hb5⟩; have HB5 := Lib.hid (HB4.out.keep hb5 HB4.out.lt); have HL5 := Lib.hid (below_then HL4.out hb5); clear c0 c1 c2 c3 c4 c5; obtain ⟨c0, c1, c2, c3, c4, c5⟩ := HB5.out; have G2 := Lib.hid (G2.out.keep hb5); have G4 := Lib.hid (G4.out.keep hb5); have G5 := Lib.hid hr5; clear hr5)
    | (go_at_call 7; have _t := tke; clear _t tke; have tkf : True := trivial; refine (HW.out _ (HC.out.keep HL5.out)).mono ?_; rintro e w6 ⟨⟨ya, yb, ydl, ydc, yol, yoc, rfl, hr6⟩, hb6⟩; have HB6 := Lib.hid (HB5.out.keep hb6 HB5.out.lt); have HL6 := Lib.hid (below_then HL5.out hb6); clear c0 c1 c2 c3 c4 c5; obtain ⟨c0, c1, c2, c3, c4, c5⟩ := HB6.out; have G2 := Lib.hid (G2.out.keep hb6); have G4 := Lib.hid (G4.out.keep hb6); have G5 := Lib.hid (G5.out.keep hb6); have G6 := Lib.hid hr6; clear hr6)
    | (go_at_call 8; have _t := tkf; clear _t tkf; have tkg : True := trivial; refine (HR2.out _ _ _ _ _ _ _ _ _ _ G6.out).mono ?_; rintro e w7 ⟨⟨v7, rfl, hr7⟩, hb7⟩; have HB7 := Lib.hid (HB6.out.keep hb7 HB6.out.lt); have HL7 := Lib.hid (below_then HL6.out hb7); clear c0 c1 c2 c3 c4 c5; obtain ⟨c0, c1, c2, c3, c4, c5⟩ := HB7.out; have G2 := Lib.hid (G2.out.keep hb7); have G4 := Lib.hid (G4.out.keep hb7); have G5 := Lib.hid (G5.out.keep hb7); have G7 := Lib.hid hr7; clear hr7))
  obtain ⟨la, lc, rfl, hlc, hlat⟩ := G2.out
  obtain ⟨ra', rc', he5, hrc, hrat⟩ := G5.out
  simp only [Value.slice.injEq, true_and] at he5
  obtain ⟨rfl, rfl⟩ := he5
  rw [HML.out] at hrcap
  rw [HDL.out] at hlc hlat ⊢
  rw [HML.out] at hrc hrat ⊢
  have HLA := Lib.hid hlat
  have HRA := Lib.hid hrat
  obtain ⟨i0, g1, g2, g3, g4⟩ := info_parts int_info
  have hI : Tryd.prog.info? 3 = some i0 ∧ i0.zero = some (.int .i64 0) ∧ i0.size = 1 ∧ i0.bytes = 8 := ⟨g1, g2, g3, g4⟩
  have HI := Lib.hid hI
  have z7 : w.heap.size < w7.heap.size := HB7.out.lt
  have HDE : Hid (D.length = ops.length) := HDL.out.trans HO.out
  clear hlat hrat hb1 hb2 hb3 hb4 hb5 hb6 hb7 HB1 HB2 HB3 HB4 HB5 HB6 HL1 HL2 HL3 HL4 HL5 HL6 g1 g2 g3 g4 hI G2 HW HJ HR1 HD2 HR2 G3 G6
  go_loopw [14, 15, 16] (fun v pq i wr => ∃ (k n : Nat) (Q : Int) (sa : Option Addr) (sc : Nat), k ≤ ol0 ∧ n ≤ k ∧ i = .int .i64 k ∧ pq = .int .i64 Q ∧ v = .slice sa n sc ∧ Hid (Q = curq 0 (ops.take k)) ∧ wr.ownsRow w7.heap.size 3 1 (.slice sa n sc) n ((dsl ((q : Int) + 1) 0 (ops.take k) (D.take k)).map (.int .i64)) ∧ BoxC wr w.heap.size ⟨name, data, ops, globals, (pr : Int), labels⟩ da0 oa0 ga0 dl0 dc0 ol0 oc0 gl0 gc0 ∧ Below w7.heap.size w7 wr) (fun _ _ i _ => ol0 - (intOf i).toNat)
  case atStart => exact ⟨0, 0, 0, none, 0, Nat.zero_le _, Nat.le_refl _, rfl, rfl, rfl, (show Hid ((0 : Int) = curq 0 (ops.take 0)) from rfl), ⟨by simp [dsl], .inl ⟨rfl, rfl⟩⟩, HB7.out, Below.refl _ _⟩
  case round =>
    clear c0 c1 c2 c3 c4 c5
    obtain ⟨k, n, Q, sa, sc, hk, hnk, rfl, rfl, rfl, hQ, hown, hbox, hbl⟩ := hrel
    have HOWN := Lib.hid hown
    have HBOX := Lib.hid hbox
    have HBL := Lib.hid hbl
    have hwz := hbox.lt
    have hz7 := hbl.size
    obtain ⟨c0, c1, c2, c3, c4, c5⟩ := hbox
    by_cases hlt : k < ol0
    · obtain ⟨hx1, b, off, rfl, hat⟩ := HC.out.ops.get hlt
      clear hx1
      have hbw : b < w.heap.size := World.block_lt_of_cell? _ _ hat.1
      obtain ⟨o0, o1, o2⟩ := hat.keep (below_then HL7.out hbl)
      have hkl : k < ops.length := by rw [← HO.out]; exact hlt
      obtain ⟨bl, ol, rfl, hl7⟩ : ∃ bl ol, la = some ⟨bl, ol, none⟩ ∧ w7.cell? ⟨bl, ol + k, none⟩ = some (.int .i64 (D.getD k 0)) := by
        rcases HLA.out with h | ⟨bl, ol, h1, h2⟩
        · have := HDL.out; rw [h] at this; simp at this; omega
        · exact ⟨bl, ol, h1, h2 k hlt⟩
      have l0 := (hbl.cell (p := ⟨bl, ol + k, none⟩) (World.block_lt_of_cell? _ _ hl7)).trans hl7
      have hqs := curq_snoc (q := 0) hkl
      have hds := dsl_snoc (p := (q : Int) + 1) (q := 0) hkl HDE.out
      rw [← hQ.out] at hqs hds
      generalize ops.getD k OC.oz = x at *
      obtain ⟨op, nn, m⟩ := x
      obtain ⟨d, hd⟩ : ∃ d, D.getD k 0 = d := ⟨_, rfl⟩
      rw [hd] at l0 hds
      dsimp only at o0 o1 o2
      have k1 : (k : Int) < (ol0 : Int) := by omega
      have hkb : k ≤ 40100 := by omega
      have HG : Hid (∀ g, (Value.slice sa n sc).ownBlock = some g → w7.heap.size ≤ g) := fun g e => (HOWN.out.lt _ e).1
      clear hat hbl hown hQ hl7 hd
      by_cases h24 : op = 24
      · subst h24
        by_cases hnp : nn = (q : Int) + 1
        · subst hnp
          have HQ2 : Hid ((q : Int) + 1 = curq 0 (ops.take (k + 1))) := by show _ = _; rw [hqs]; rfl
          have HS2 : Hid (dsl ((q : Int) + 1) 0 (ops.take (k + 1)) (D.take (k + 1)) = dsl ((q : Int) + 1) 0 (ops.take k) (D.take k)) := by show _ = _; rw [hds, if_pos (by rfl)]; simp
          clear hqs hds
          go_wp2
          go_roundw
          case rel => exact ⟨k + 1, n, _, sa, sc, by omega, by omega, by go_num, rfl, rfl, HQ2, by rw [HS2.out]; exact HOWN.out, HBOX.out, HBL.out⟩
          case measure => simp [intOf]; omega
        · have en : (nn != (q : Int) + 1) = true := by simpa using hnp
          have HQ2 : Hid (nn = curq 0 (ops.take (k + 1))) := by show _ = _; rw [hqs]; rfl
          have HS2 : Hid ((dsl ((q : Int) + 1) 0 (ops.take (k + 1)) (D.take (k + 1))).map (Value.int .i64) = (dsl ((q : Int) + 1) 0 (ops.take k) (D.take k)).map (.int .i64) ++ [.int .i64 d]) := by show _ = _; rw [hds, if_neg (by exact hnp)]; simp
          clear hqs hds hnp
          go_wp2_with (at_builtin; refine wpList_append_one rfl (.tmp 100) (.tmp 105) 29 rfl w7.heap.size 3 i0 .i64 8 Tryd.underlying29 HI.out (by decide) _ _ _ rfl HOWN.out _ rfl ?_ ?_ ?_)
          · omega
          intro v8 w8 hown8 hcl8 hbe8 hsz8 hob8
          obtain ⟨sa8, sc8, rfl⟩ := owns_form' hown8
          have hne : ∀ j : Nat, some (⟨w.heap.size, j, none⟩ : Addr).block ≠ (Value.slice sa n sc).ownBlock := fun j e => by have := HG.out _ e.symm; simp at this; omega
          have HB8 : Hid (BoxC w8 w.heap.size ⟨name, data, ops, globals, (pr : Int), labels⟩ da0 (some ⟨b, off, none⟩) ga0 dl0 dc0 ol0 oc0 gl0 gc0) := HBOX.out.off (fun j u hu => hcl8 _ _ hu (hne j))
          have HL8 : Hid (Below w7.heap.size w7 w8) := hbe8 _ _ HBL.out (Nat.le_refl _)
          have HO8 : Hid (w8.ownsRow w7.heap.size 3 1 (.slice sa8 (n + 1) sc8) (n + 1) ((dsl ((q : Int) + 1) 0 (ops.take (k + 1)) (D.take (k + 1))).map (.int .i64))) := by show World.ownsRow _ _ _ _ _ _ _; rw [HS2.out]; exact hown8
          clear hown8 hbe8 hsz8 hcl8 hob8 hne c0 c1 c2 c3 c4 c5 o0 o1 o2 l0
          go_wp2
          go_roundw
          case rel => exact ⟨k + 1, n + 1, _, sa8, sc8, by omega, by omega, by go_num, rfl, rfl, HQ2, HO8.out, HB8.out, HL8.out⟩
          case measure => simp [intOf]; omega
      · have e24 : (op == 24) = false := by simpa using h24
        by_cases hqp : Q = (q : Int) + 1
        · subst hqp
          have HQ2 : Hid ((q : Int) + 1 = curq 0 (ops.take (k + 1))) := by show _ = _; rw [hqs]; exact (nxq_other h24).symm
          have HS2 : Hid (dsl ((q : Int) + 1) 0 (ops.take (k + 1)) (D.take (k + 1)) = dsl ((q : Int) + 1) 0 (ops.take k) (D.take k)) := by show _ = _; rw [hds, if_pos (by exact nxq_other h24)]; simp
          clear hqs hds h24
          go_wp2
          go_roundw
          case rel => exact ⟨k + 1, n, _, sa, sc, by omega, by omega, by go_num, rfl, rfl, HQ2, by rw [HS2.out]; exact HOWN.out, HBOX.out, HBL.out⟩
          case measure => simp [intOf]; omega
        · have en : (Q != (q : Int) + 1) = true := by simpa using hqp
          have HQ2 : Hid (Q = curq 0 (ops.take (k + 1))) := by show _ = _; rw [hqs]; exact (nxq_other h24).symm
          have HS2 : Hid ((dsl ((q : Int) + 1) 0 (ops.take (k + 1)) (D.take (k + 1))).map (Value.int .i64) = (dsl ((q : Int) + 1) 0 (ops.take k) (D.take k)).map (.int .i64) ++ [.int .i64 d]) := by show _ = _; rw [hds, if_neg (by rw [nxq_other h24]; exact hqp)]; simp
          clear hqs hds h24 hqp
          go_wp2_with (at_builtin; refine wpList_append_one rfl (.tmp 100) (.tmp 105) 29 rfl w7.heap.size 3 i0 .i64 8 Tryd.underlying29 HI.out (by decide) _ _ _ rfl HOWN.out _ rfl ?_ ?_ ?_)
          · omega
          intro v8 w8 hown8 hcl8 hbe8 hsz8 hob8
          obtain ⟨sa8, sc8, rfl⟩ := owns_form' hown8
          have hne : ∀ j : Nat, some (⟨w.heap.size, j, none⟩ : Addr).block ≠ (Value.slice sa n sc).ownBlock := fun j e => by have := HG.out _ e.symm; simp at this; omega
          have HB8 : Hid (BoxC w8 w.heap.size ⟨name, data, ops, globals, (pr : Int), labels⟩ da0 (some ⟨b, off, none⟩) ga0 dl0 dc0 ol0 oc0 gl0 gc0) := HBOX.out.off (fun j u hu => hcl8 _ _ hu (hne j))
          have HL8 : Hid (Below w7.heap.size w7 w8) := hbe8 _ _ HBL.out (Nat.le_refl _)
          have HO8 : Hid (w8.ownsRow w7.heap.size 3 1 (.slice sa8 (n + 1) sc8) (n + 1) ((dsl ((q : Int) + 1) 0 (ops.take (k + 1)) (D.take (k + 1))).map (.int .i64))) := by show World.ownsRow _ _ _ _ _ _ _; rw [HS2.out]; exact hown8
          clear hown8 hbe8 hsz8 hcl8 hob8 hne c0 c1 c2 c3 c4 c5 o0 o1 o2 l0
          go_wp2
          go_roundw
          case rel => exact ⟨k + 1, n + 1, _, sa8, sc8, by omega, by omega, by go_num, rfl, rfl, HQ2, HO8.out, HB8.out, HL8.out⟩
          case measure => simp [intOf]; omega
    · obtain rfl : ol0 = k := by omega
      have hf1 : ops.take ol0 = ops := List.take_of_length_le (by rw [← HO.out]; exact Nat.le_refl _)
      have hf2 : D.take ol0 = D := List.take_of_length_le (by rw [HDL.out]; exact Nat.le_refl _)
      rw [hf1, hf2, HD2E.out] at hown
      have hlen2 : D2.length = n := by have := hown.1; simpa using this
      obtain ⟨W8, hW8⟩ : ∃ W, wr.drew = W := ⟨_, rfl⟩
      have hd8 : Below wr.heap.size wr W8 := by rw [← hW8]; exact (Below.refl wr.heap.size wr).drew
      have hbl8 : Below w7.heap.size w7 W8 := hbl.trans (hd8.mono hbl.size)
      have HW2 : Hid (Rd .i64 W8 (.slice sa n sc) D2) := (Rd.of_owns hown (by omega)).keep hd8
      have HV4 : Hid (Rd .i64 W8 v4 D2) := G4.out.keep hbl8
      have HV7 : Hid (Rd .i64 W8 v7 M2) := G7.out.keep hbl8
      have HV5 : Hid (Rd .i64 W8 (.slice ra pr rc) M) := by have := G5.out.keep hbl8; rwa [HML.out] at this
      have HLW : Hid (Below w.heap.size w W8) := below_then HL7.out hbl8
      have HMC : Hid (M.take q ++ M.drop (q + 1) = M2) := by show _ = _; rw [← HM2E.out, List.eraseIdx_eq_take_drop_succ]
      clear hown hbl hf1 hf2 hQ HOWN HBOX HBL HLA HRA G4 G5 G7 hlt hlen2 hd8 hbl8
      have l1 : (q : Int) ≤ (rc : Int) := by omega
      have l2 : (q : Int) ≤ (pr : Int) := by omega
      have l3 : (q : Int) + 1 ≤ (rc : Int) := by omega
      have l4 : (0 : Int) ≤ (q : Int) + 1 := by omega
      have hwq : IntKind.i64.wrap (q : Int) = (q : Int) := IntWalk.i64_in _ ⟨by omega, by omega⟩
      have hwp : IntKind.i64.wrap ((q : Int) + 1) = (q : Int) + 1 := IntWalk.i64_in _ ⟨by omega, by omega⟩
      go_wp2
      refine wp_region_held_drew (S := fun _ => True) (by kernel_rfl) trivial (fun hHeld => ?_)
      (try rw [hW8])
      clear hW8
      refine takeH (i := 0) (v := ?v0) rfl rfl (by kernel_rfl) (by kernel_rfl) (by kernel_rfl) (fun _ _ _ h => h) (Or.inl ⟨by rfl, ?hy0⟩) trivial ?rest0
      case hy0 => (intro W hSw; go_simp; try with_reducible rfl)
      try simp only [Act.put, List.setIfInBounds_toArray, List.set_cons_zero, List.set_cons_succ]
      refine takeH (i := 1) (v := ?v1) rfl rfl (by kernel_rfl) (by kernel_rfl) (by kernel_rfl) (fun _ _ _ h => h) (Or.inl ⟨by rfl, ?hy1⟩) trivial ?rest1
      case hy1 => (intro W hSw; go_simp; try with_reducible rfl)
      try simp only [Act.put, List.setIfInBounds_toArray, List.set_cons_zero, List.set_cons_succ]
      refine wpAnyH_ready (rs := [2]) (by kernel_rfl) (by simp) ?_
      refine AllReadyH.cons rfl (fun K hK => ?_) AllReadyH.nil
      go_simp
      go_at_call 9; refine (EqInts_yes _ _ D2 _ HV4.out HW2.out).mono ?_; rintro e w8 ⟨rfl, hb8⟩
      refine hK.out _ _ trivial (fun hHeld => ?_)
      clear hK K
      try simp only [Act.put, List.setIfInBounds_toArray, List.set_cons_zero, List.set_cons_succ]
      refine takeH (i := 3) (v := ?v3) rfl rfl (by kernel_rfl) (by kernel_rfl) (by kernel_rfl) (fun _ _ _ h => h) (Or.inl ⟨by rfl, ?hy3⟩) trivial ?rest3
      case hy3 => (intro W hSw; go_simp; try with_reducible rfl)
      try simp only [Act.put, List.setIfInBounds_toArray, List.set_cons_zero, List.set_cons_succ]
      refine takeH (i := 4) (v := ?v4) rfl rfl (by kernel_rfl) (by kernel_rfl) (by kernel_rfl) (fun _ _ _ h => h) (Or.inl ⟨by rfl, ?hy4⟩) trivial ?rest4
      case hy4 => (intro W hSw; go_simp; try with_reducible rfl)
      try simp only [Act.put, List.setIfInBounds_toArray, List.set_cons_zero, List.set_cons_succ]
      refine takeH (i := 5) (v := ?v5) rfl rfl (by kernel_rfl) (by kernel_rfl) (by kernel_rfl) (fun _ _ _ h => h) (Or.inl ⟨by rfl, ?hy5⟩) trivial ?rest5
      case hy5 => (intro W hSw; go_simp; try with_reducible rfl)
      try simp only [Act.put, List.setIfInBounds_toArray, List.set_cons_zero, List.set_cons_succ]
      refine takeH (i := 6) (v := ?v6) rfl rfl (by kernel_rfl) (by kernel_rfl) (by kernel_rfl) (fun _ _ _ h => h) (Or.inl ⟨by rfl, ?hy6⟩) trivial ?rest6
      case hy6 => (intro W hSw; go_simp; try with_reducible rfl)
      try simp only [Act.put, List.setIfInBounds_toArray, List.set_cons_zero, List.set_cons_succ]
      refine takeH (i := 7) (v := ?v7) rfl rfl (by kernel_rfl) (by kernel_rfl) (by kernel_rfl) (fun _ _ _ h => h) (Or.inl ⟨by rfl, ?hy7⟩) trivial ?rest7
      case hy7 => (intro W hSw; go_simp; try with_reducible rfl)
      try simp only [Act.put, List.setIfInBounds_toArray, List.set_cons_zero, List.set_cons_succ]
      refine takeH (i := 8) (v := ?v8) rfl rfl (by kernel_rfl) (by kernel_rfl) (by kernel_rfl) (fun _ _ _ h => h) (Or.inl ⟨by rfl, ?hy8⟩) trivial ?rest8
      case hy8 => (intro W hSw; go_simp; try with_reducible rfl)
      try simp only [Act.put, List.setIfInBounds_toArray, List.set_cons_zero, List.set_cons_succ]
      refine takeH (i := 10) (v := ?v10) rfl rfl (by kernel_rfl) (by kernel_rfl) (by kernel_rfl) (fun _ _ _ h => h) (Or.inl ⟨by rfl, ?hy10⟩) trivial ?rest10
      case hy10 => (intro W hSw; go_simp; try with_reducible rfl)
      try simp only [Act.put, List.setIfInBounds_toArray, List.set_cons_zero, List.set_cons_succ]
      refine takeH (i := 11) (v := ?v11) rfl rfl (by kernel_rfl) (by kernel_rfl) (by kernel_rfl) (fun _ _ _ h => h) (Or.inl ⟨by rfl, ?hy11⟩) trivial ?rest11
      case hy11 => (intro W hSw; go_simp; try with_reducible rfl)
      try simp only [Act.put, List.setIfInBounds_toArray, List.set_cons_zero, List.set_cons_succ]
      refine takeH (i := 12) (v := ?v12) rfl rfl (by kernel_rfl) (by kernel_rfl) (by kernel_rfl) (fun _ _ _ h => h) (Or.inl ⟨by rfl, ?hy12⟩) trivial ?rest12
      case hy12 => (intro W hSw; go_simp; try with_reducible rfl)
      try simp only [Act.put, List.setIfInBounds_toArray, List.set_cons_zero, List.set_cons_succ]
      have HLE := Lib.hid (srcC_part (q := q) (HV5.out.keep hb8) HML.out (by omega) (by omega))
      have HV7 := Lib.hid (HV7.out.keep hb8)
      have HLW := Lib.hid (below_then HLW.out hb8)
      have hMt : (M.take q).length = q := by have := HML.out; simp; omega
      have hMd : (M.drop (q + 1)).length = pr - (q + 1) := by have := HML.out; simp; omega
      clear hb8 HV5
      refine wpAnyH_ready (rs := [9]) (by kernel_rfl) (by simp) ?_
      refine AllReadyH.cons rfl (fun K hK => ?_) AllReadyH.nil
      refine step_append_list (by rfl) (.const (.slice none 0 0)) (.tmp 128) 29 (by rfl) w8.heap.size 3 i0 .i64 8 Tryd.underlying29 HI.out (Nat.le_refl _) (.slice none 0 0) 0 [] (by rfl) ⟨by simp, .inl ⟨rfl, rfl⟩⟩ ra q rc (M.take q) (by rfl) hMt HLE.out.1 (by omega) (Nat.le_refl _) ?_
      intro v9 w9 hown9 hgr9
      have hb9 : Below w8.heap.size w8 w9 := (Below.refl w8.heap.size w8).grown hgr9 (Nat.le_refl _) (fun kk e => by simp [Value.ownBlock] at e)
      have hown9 : w9.ownsRow w8.heap.size 3 1 v9 q ((M.take q).map (.int .i64)) := by simpa using hown9
      have HS2 := Lib.hid (srcC_keep HLE.out.2 hb9)
      have z9 := hb9.size
      clear hgr9
      refine hK.out _ _ trivial (fun hHeld => ?_)
      clear hK K
      try simp only [Act.put, List.setIfInBounds_toArray, List.set_cons_zero, List.set_cons_succ]
      refine wpAnyH_ready (rs := [13]) (by kernel_rfl) (by simp) ?_
      refine AllReadyH.cons rfl (fun K hK => ?_) AllReadyH.nil
      refine step_append_list (by rfl) (.tmp 129) (.tmp 132) 29 (by rfl) w8.heap.size 3 i0 .i64 8 Tryd.underlying29 HI.out (Nat.le_refl _) v9 q (M.take q) (by rfl) hown9 _ (pr - (q + 1)) _ (M.drop (q + 1)) (by rfl) hMd HS2.out (by omega) z9 ?_
      intro v10 w10 hown10 hgr10
      have hb10 : Below w8.heap.size w8 w10 := hb9.grown hgr10 z9 (fun kk e => (hown9.lt kk e).1)
      rw [HMC.out] at hown10
      have HV10 : Hid (Rd .i64 w10 v10 M2) := Rd.of_owns hown10 (by have h9 := hown10.1; simp at h9; omega)
      have HV7 := Lib.hid (HV7.out.keep hb10)
      have HLW := Lib.hid (below_then HLW.out hb10)
      clear hgr10 hown10 hown9 hb9 HS2 HLE hb10
      refine hK.out _ _ trivial (fun hHeld => ?_)
      clear hK K
      try simp only [Act.put, List.setIfInBounds_toArray, List.set_cons_zero, List.set_cons_succ]
      refine wpAnyH_ready (rs := [14]) (by kernel_rfl) (by simp) ?_
      refine AllReadyH.cons rfl (fun K hK => ?_) AllReadyH.nil
      go_simp
      go_at_call 9; refine (EqInts_yes _ _ M2 _ HV7.out HV10.out).mono ?_; rintro e w11 ⟨rfl, hb11⟩; have HLW := Lib.hid (below_then HLW.out hb11); clear hb11
      refine hK.out _ _ trivial (fun hHeld => ?_)
      clear hK K
      try simp only [Act.put, List.setIfInBounds_toArray, List.set_cons_zero, List.set_cons_succ]
      refine takeH (i := 15) (v := ?v15) rfl rfl (by kernel_rfl) (by kernel_rfl) (by kernel_rfl) (fun _ _ _ h => h) (Or.inl ⟨by rfl, ?hy15⟩) trivial ?rest15
      case hy15 => (intro W hSw; go_simp; try with_reducible rfl)
      try simp only [Act.put, List.setIfInBounds_toArray, List.set_cons_zero, List.set_cons_succ]
      refine takeH (i := 16) (v := ?v16) rfl rfl (by kernel_rfl) (by kernel_rfl) (by kernel_rfl) (fun _ _ _ h => h) (Or.inl ⟨by rfl, ?hy16⟩) trivial ?rest16
      case hy16 => (intro W hSw; go_simp; try with_reducible rfl)
      try simp only [Act.put, List.setIfInBounds_toArray, List.set_cons_zero, List.set_cons_succ]
      refine wpAnyH_ready (rs := [17]) (by kernel_rfl) (by simp) ?_
      refine AllReadyH.cons rfl (fun K hK => ?_) AllReadyH.nil
      go_simp
      go_at_call 5; refine (awake_c _ (HC.out.inst.keep HLW.out (Nat.le_refl _))).mono ?_; rintro e w12 ⟨rfl, hb12⟩; have HLW := Lib.hid (below_then HLW.out hb12); clear hb12
      refine hK.out _ _ trivial (fun hHeld => ?_)
      clear hK K
      try simp only [Act.put, List.setIfInBounds_toArray, List.set_cons_zero, List.set_cons_succ]
      refine takeH (i := 18) (v := ?v18) rfl rfl (by kernel_rfl) (by kernel_rfl) (by kernel_rfl) (fun _ _ _ h => h) (Or.inl ⟨by rfl, ?hy18⟩) trivial ?rest18
      case hy18 => (intro W hSw; go_simp; try with_reducible rfl)
      try simp only [Act.put, List.setIfInBounds_toArray, List.set_cons_zero, List.set_cons_succ]
      refine takeH (i := 19) (v := ?v19) rfl rfl (by kernel_rfl) (by kernel_rfl) (by kernel_rfl) (fun _ _ _ h => h) (Or.inl ⟨by rfl, ?hy19⟩) trivial ?rest19
      case hy19 => (intro W hSw; go_simp; try with_reducible rfl)
      try simp only [Act.put, List.setIfInBounds_toArray, List.set_cons_zero, List.set_cons_succ]
      refine wpAnyH_done (by kernel_rfl) ?_ _
      go_wp2
      all_goals (go_ret; exact ⟨rfl, HLW.out⟩)

theorem contract (H : Type) (enc : TypeId × Value → H) (W : World) (base : Nat) (args : Array Value) (ds gs : List (DataW H)) (before : List MemPlace)
    (hval : ∀ (j : Nat) t v, Tryd.f3.params[j]? = some t → args[j]? = some v → Value.okWide Tryd.prog W .any base t v)
    (hW : DataW.Whole enc Tryd.prog Tryd.f3.params.toList Rows.ocodeApartSpec.vars false W args.toList ds gs before)
    (hsz : (DataW.weightsEach Tryd.prog (Tryd.f3.params.toList ++ Rows.ocodeApartSpec.plain.varTypes Tryd.prog) (ds ++ gs)).all (· ≤ reachBytes) = true) (hL : laidMetH Tryd.prog Rows.ocodeApartRow.laid W) :
    Calls Tryd.prog 3 args W fun e W' => ∃ v, e = .returned v ∧ Rows.ocodeApartSpec.post enc Tryd.prog Tryd.f3 false true false false W args v W' := by
  have hW' := hW
  obtain ⟨p, q, hA0, hV, rfl, hfz, hnd⟩ := hW
  have hA : DataW.TrodAll enc Tryd.prog W 0 (fun _ => true) true Tryd.f3.params.toList args.toList ds p := hA0
  rw [Tryd.params3] at hA hval hsz
  obtain ⟨v0, vs0, d0, ds0, p0, q0, hargs, rfl, rfl, h0, r0⟩ := trodAll_cons hA
  obtain ⟨v1, vs1, d1, ds1, p1, q1, rfl, rfl, rfl, h1, r1⟩ := trodAll_cons r0
  obtain ⟨rfl, rfl, rfl⟩ := trodAll_nil r1
  obtain rfl : args = #[v0, v1] := by cases args; simp_all
  obtain ⟨rfl, rfl⟩ := trodVars_none hV
  have k0 := h0
  have lt0 : ∀ x ∈ p0, x.block < W.heap.size := by obtain ⟨m, hm⟩ := k0; exact DataW.trod_lt m _ _ _ hm
  have k1 := h1
  have lt1 : ∀ x ∈ p1, x.block < W.heap.size := by obtain ⟨m, hm⟩ := k1; exact DataW.trod_lt m _ _ _ hm
  obtain ⟨c0, da0, oa0, ga0, dl0, dc0, ol0, oc0, gl0, gc0, rfl, w0, z0⟩ := open_code (hval 0 26 v0 rfl rfl) h0 (fun n hn => by have := List.all_eq_true.1 hsz n (DataW.weights_mem_each (j := 0) rfl rfl n hn); simpa using this)
  obtain ⟨a1, rfl, rfl, rfl, w1⟩ := open_int Tryd.underlying3 (hval 1 3 v1 rfl rfl) h1
  clear hA0
  have hi : InstAt W := instAt_of hL
  refine (walk c0 da0 oa0 ga0 dl0 dc0 ol0 oc0 gl0 gc0 a1 W w0 z0 w1 hi).mono fun e W' ⟨he, bel⟩ => ?_
  subst he
  exact ⟨_, rfl, _, _, _, [], _, [], hW', trodAll_mk1 (shut_bool Tryd.underlying4 _), (trodAll_cons_mk (Below.trod laidOut (by kernel_rfl) (of_decide_eq_true (by kernel_rfl)) k0 bel lt0) (trodAll_cons_mk (Below.trod laidOut (by kernel_rfl) (of_decide_eq_true (by kernel_rfl)) k1 bel lt1) trodAll_mk0)), rfl, bel.frame _, fun h => by cases h⟩

theorem laid_met (os : Os) : laidMet Tryd.prog Rows.ocodeApartRow.laid ((laidWorld os).forCall (fun _ _ => 0) ⟨#[], #[.agg #[.string ⟨#[]⟩, .slice none 0 0, .slice none 0 0, .slice none 0 0, .int .i64 0, .int .i64 0], .int .i64 0], []⟩).memory :=
  laidMet_of_run' 8 (by kernel_rfl) (by kernel_rfl)
set_option maxRecDepth 100000 in
theorem lifted (os : Os) (started : os.Started) (H : Type) (enc : TypeId × Value → H) (F : Stop.Interp) :
    ReturnsInHanded {} Tryd.checked os 3 .any ((OpenSpec.ofChange Rows.ocodeApartSpec).preRow enc Tryd.prog Tryd.f3 Rows.ocodeApartRow.domain false Rows.ocodeApartRow.laid) (((OpenSpec.ofChange Rows.ocodeApartSpec).at F).post enc Tryd.prog Tryd.f3 false true false false) := by
  refine returnsInHanded_of_row (C := Tryd.checked) (s := OpenSpec.ofChange Rows.ocodeApartSpec) own started (by kernel_rfl) Tryd.func3
    (witness_row_at (enc := enc) (C := Tryd.checked) false (laidWorld os) #[.agg #[.string ⟨#[]⟩, .slice none 0 0, .slice none 0 0, .slice none 0 0, .int .i64 0, .int .i64 0], .int .i64 0] rfl (by kernel_rfl) (by kernel_rfl) (by kernel_rfl)
      (OpenSpec.preRow_of_cond 8 (x := ([.agg [.lit (.string []), .nil, .nil, .nil, .lit (.int .i64 0), .lit (.int .i64 0)], .lit (.int .i64 0)], [], [])) (by kernel_rfl) (by kernel_rfl) (fun k hk => by cases hk) (by kernel_rfl) (laid_met os))) ?_
  intro W base args ds gs before hval hW _ _ hsz hL _ _
  exact contract H enc W base args ds gs before hval hW hsz hL
theorem said : Rows.OcodeApartSaid :=
  OpenClaim.holds_of_cond 3 Tryd.f3 rfl rfl rfl rfl rfl rfl rfl ⟨rfl, rfl, rfl, rfl, rfl⟩ rfl rfl rfl rfl rfl (by kernel_rfl) Tryd.func3 (by kernel_rfl)
    (of_decide_eq_true (by kernel_rfl)) (by unfold Func.isWrapper; first | (rw [if_pos (by decide +kernel)]; kernel_rfl) | (rw [if_neg (by decide +kernel)]; exact ⟨rfl, rfl⟩))
    (fun os started H enc _ F => by rw [OpenClaim.pre_eq_preRow]; exact lifted os started H enc F)
theorem plain (f : FuncId) (fn : Func) (hf : Tryd.pinned.checked.prog.funcNamed "bluebell/bluebelllaw06.OcodeApart" = some f) (hfn : Tryd.pinned.checked.prog.funcs[f]? = some fn) :
    false = Tryd.pinned.checked.prog.looks [] ∧ ∀ (j : Nat) t, fn.params[j]? = some t → Tryd.pinned.checked.prog.wantsStandIn t = false := by
  obtain rfl : f = 3 := Option.some.inj ((show Tryd.prog.funcNamed "bluebell/bluebelllaw06.OcodeApart" = some 3 by kernel_rfl).symm.trans hf) |>.symm
  obtain rfl : fn = Tryd.f3 := (Option.some.inj (Tryd.func3.symm.trans hfn)).symm
  refine ⟨by kernel_rfl, fun j t ht => ?_⟩
  rw [Tryd.params3] at ht
  have hm := Array.mem_of_getElem? ht
  simp at hm
  rcases hm with rfl | rfl
  · exact (show Tryd.prog.wantsStandIn 26 = false by kernel_rfl)
  · exact (show Tryd.prog.wantsStandIn 3 = false by kernel_rfl)
theorem card : Rows.OcodeApartCardSaid :=
  Claim7.holds_tied_plain_at .later [] _ _ _ _ said (fun _ h => by cases h) (by kernel_rfl) (fun _ h => by cases h) ocodeApart_row_tie rfl ⟨rfl, rfl⟩ (by kernel_rfl) rfl plain (by kernel_rfl)
end Go.Proofs.YtfnkafnjpldaoaaDoor.ocodeApart
namespace Go.Proofs.YtfnkafnjpldaoaaDoor
theorem ocodeApart_holds : Rows.OcodeApartCardSaid := ocodeApart.card
end Go.Proofs.YtfnkafnjpldaoaaDoor
