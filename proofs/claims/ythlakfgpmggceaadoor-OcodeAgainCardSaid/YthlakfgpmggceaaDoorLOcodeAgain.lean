/- The card of the statement OcodeAgain holds: the law returns true for all its arguments, and they read behind the call as before; the table of instructions that the row lists is tied to the program's text. -/
import Derived.Test.YthlakfgpmggceaaDoorOcLd
import Derived.Test.YthlakfgpmggceaaDoorOcAw
import Derived.Test.YthlakfgpmggceaaDoorOcLw
import Derived.Test.YthlakfgpmggceaaDoorOcRq
import Derived.Test.YthlakfgpmggceaaDoorOcRp
import Derived.Test.YthlakfgpmggceaaDoorOcPsm
import Derived.HandedShaped
namespace Go.Proofs.YthlakfgpmggceaaDoor.ocodeAgain
open Go.ChangeShapes Go.WideShapes Go.ChangeAt Go.RowKit Go.Joins 
open Go.ChangeMaps (open_string shut_string)
set_option linter.unusedVariables false
set_option linter.unusedSimpArgs false
set_option maxRecDepth 100000
set_option maxRecDepth 100000 in
set_option maxHeartbeats 8000000 in
theorem walk (c0 : OC.Code) (da0 oa0 ga0 : Option Addr) (dl0 dc0 ol0 oc0 gl0 gc0 : Nat) (w : World) (w0 : CodeIn w c0 da0 oa0 ga0 dl0 dc0 ol0 oc0 gl0 gc0) (z0 : OkC c0) (hi : InstAt w) :
    Calls Tryd.prog 9 #[codeV c0 da0 oa0 ga0 dl0 dc0 ol0 oc0 gl0 gc0] w fun e w' => e = .returned (.bool true) ∧ Below w.heap.size w w' := by
  have HC := Lib.hid (CodeI.mk w0 hi)
  have htx : ∀ d ∈ c0.data, d.text.length ≤ 140737488351232 := fun d hd => (z0.data d hd).1
  have HV : Hid (∀ W, CodeI W c0 da0 oa0 ga0 dl0 dc0 ol0 oc0 gl0 gc0 → Calls Tryd.prog 13 #[codeV c0 da0 oa0 ga0 dl0 dc0 ol0 oc0 gl0 gc0] W fun e w' => e = .returned (.bool (heavyC c0 40100)) ∧ Below W.heap.size W w') := fun W hW => heavy_c c0 da0 oa0 ga0 dl0 dc0 ol0 oc0 gl0 gc0 W hW.toCodeIn htx
  by_cases hh : heavyC c0 40100 = true
  · rw [hh] at HV
    obtain ⟨name, data, ops, globals, procs, labels⟩ := c0
    clear w0 z0 hh htx
    go_enter Tryd.func9, Tryd.ntmps9
    go_wp2_with (first
      | (go_at_call 13; refine (HV.out _ (HC.out.keep (below_alloc _ _))).mono ?_; rintro e w1 ⟨rfl, hb1⟩; obtain ⟨hcc1, hff1⟩ := bcell hb1; have z1 := hb1.size; have zw1 : w.heap.size < w1.heap.size := (by first | omega | (simp at z1; omega)))
      | (go_at_call 14; refine (awake_c _ (HC.out.inst.keep (by repeat (first | assumption | exact HL4.out | exact HL2.out | exact HL1.out | exact below_then HL3.out hbl | exact Below.refl _ _ | exact below_alloc _ _ | refine below_back (by assumption) ?_ | refine below_then ?_ (below_alloc _ _) | refine Below.drew ?_ | refine below_drewN ?_ _ | refine below_then ?_ hb9 | refine below_then ?_ hb8 | refine below_then ?_ hb7 | refine below_then ?_ hb6 | refine below_then ?_ hb5 | refine below_then ?_ hb4 | refine below_then ?_ hb3 | refine below_then ?_ hb2 | refine below_then ?_ hb1 | exact HBL.out | exact HBW.out | exact HL.out)) (Nat.le_refl _))).mono ?_; rintro e w2 ⟨rfl, hb2⟩; obtain ⟨hcc2, hff2⟩ := bcell hb2; have z2 := hb2.size; have zw2 : w.heap.size < w2.heap.size := (by first | omega | (simp at z2; omega))))
    go_ret
    exact ⟨rfl, (by repeat (first | exact Below.refl _ _ | exact below_alloc _ _ | refine below_then ?_ (below_alloc _ _) | refine Below.drew ?_ | refine below_drewN ?_ _ | refine below_then ?_ hb9 | refine below_then ?_ hb8 | refine below_then ?_ hb7 | refine below_then ?_ hb6 | refine below_then ?_ hb5 | refine below_then ?_ hb4 | refine below_then ?_ hb3 | refine below_then ?_ hb2 | refine below_then ?_ hb1))⟩
  have hs : Small c0 := small_of (by simpa using hh)
  rw [Bool.not_eq_true] at hh
  rw [hh] at HV
  have HS := Lib.hid hs
  by_cases hE : checkE c0 = 0
  case neg =>
    obtain ⟨E, hE2⟩ : ∃ E, checkQ c0 = E := ⟨_, rfl⟩
    have hE3 : E ≠ 0 := fun h => hE ((checkQ_zero c0).1 (hE2.trans h))
    have ee : ((E : Int) != 0) = true := by simp; omega
    obtain ⟨X, hX⟩ : ∃ X, renA c0 = X := ⟨_, rfl⟩
    have HP : Hid (∀ W, CodeI W c0 da0 oa0 ga0 dl0 dc0 ol0 oc0 gl0 gc0 → Calls Tryd.prog 27 #[codeV c0 da0 oa0 ga0 dl0 dc0 ol0 oc0 gl0 gc0] W fun e w' => (∃ a1 a2 a3 n1 m1 n2 m2 n3 m3, e = .returned (.tuple #[codeV X a1 a2 a3 n1 m1 n2 m2 n3 m3, .int .i64 (E : Int)])) ∧ Below W.heap.size W w') := fun W hW => (RenumberQ_c c0 da0 oa0 ga0 dl0 dc0 ol0 oc0 gl0 gc0 W hW.toCodeIn hs hW.inst).mono fun e w' h => by
      obtain ⟨⟨a1, a2, a3, n1, m1, n2, m2, n3, m3, he, hw⟩, hb⟩ := h
      rw [hX, hE2] at he
      exact ⟨⟨a1, a2, a3, n1, m1, n2, m2, n3, m3, he⟩, hb⟩
    obtain ⟨name, data, ops, globals, procs, labels⟩ := c0
    obtain ⟨xn, xd, xo, xg, xp, xl⟩ := X
    clear w0 z0 hh htx hs hE hE2 hX
    go_enter Tryd.func9, Tryd.ntmps9
    go_wp2_with (first
      | (go_at_call 13; refine (HV.out _ (HC.out.keep (below_alloc _ _))).mono ?_; rintro e w1 ⟨rfl, hb1⟩; have BC := Lib.hid ((BoxC.new w ⟨name, data, ops, globals, procs, labels⟩ da0 oa0 ga0 dl0 dc0 ol0 oc0 gl0 gc0 26).keep hb1 (by simp)); have HL := Lib.hid (below_then (below_alloc _ _) hb1); obtain ⟨c0, c1, c2, c3, c4, c5⟩ := BC.out)
      | (go_at_call 27; refine (HP.out _ (HC.out.keep HL.out)).mono ?_; rintro e w2 ⟨⟨pa2, pb2, pc2, pd2, pe2, pf2, pg2, ph2, pi2, rfl⟩, hb2⟩)
      | (go_at_call 14; refine (awake_c _ (HC.out.inst.keep (by repeat (first | assumption | exact HL4.out | exact HL2.out | exact HL1.out | exact below_then HL3.out hbl | exact Below.refl _ _ | exact below_alloc _ _ | refine below_back (by assumption) ?_ | refine below_then ?_ (below_alloc _ _) | refine Below.drew ?_ | refine below_drewN ?_ _ | refine below_then ?_ hb9 | refine below_then ?_ hb8 | refine below_then ?_ hb7 | refine below_then ?_ hb6 | refine below_then ?_ hb5 | refine below_then ?_ hb4 | refine below_then ?_ hb3 | refine below_then ?_ hb2 | refine below_then ?_ hb1 | exact HBL.out | exact HBW.out | exact HL.out)) (Nat.le_refl _))).mono ?_; rintro e w9 ⟨rfl, hb9⟩))
    go_ret
    exact ⟨rfl, below_then (below_then (below_then HL.out hb2) (below_alloc _ _)) hb9⟩
  obtain ⟨hok, hidem⟩ := renum_ok hE
  obtain ⟨D, hD⟩ : ∃ D, depG 0 c0.ops = D := ⟨_, rfl⟩
  obtain ⟨M, hM⟩ : ∃ M, roomG c0.ops D [] = M := ⟨_, rfl⟩
  obtain ⟨X, hX⟩ : ∃ X, renum c0 = X := ⟨_, rfl⟩
  have hXo : X.ops = c0.ops.map (ren (toC c0)) := by rw [← hX]; rfl
  have hsX : Small X := by rw [← hX]; exact ⟨by show (c0.ops.map _).length ≤ _; rw [List.length_map]; exact hs.ops, hs.globals, hs.weight⟩
  rw [hX] at hok hidem
  have hDX : depG 0 X.ops = D := by rw [hXo, depG_ren, hD]
  have hMX : roomG X.ops D [] = M := by rw [hXo, roomG_ren, hM]
  have hlX : X.ops.length = c0.ops.length := by rw [hXo, List.length_map]
  have HLX := Lib.hid hlX
  have HOL := Lib.hid w0.ops.len.1
  have HP : Hid (∀ W, CodeI W c0 da0 oa0 ga0 dl0 dc0 ol0 oc0 gl0 gc0 → Calls Tryd.prog 27 #[codeV c0 da0 oa0 ga0 dl0 dc0 ol0 oc0 gl0 gc0] W fun e w' => (∃ a1 a2 a3 n1 m1 n2 m2 n3 m3, e = .returned (.tuple #[codeV X a1 a2 a3 n1 m1 n2 m2 n3 m3, .int .i64 0]) ∧ CodeI w' X a1 a2 a3 n1 m1 n2 m2 n3 m3) ∧ Below W.heap.size W w') := fun W hW => (RenumberQ_c c0 da0 oa0 ga0 dl0 dc0 ol0 oc0 gl0 gc0 W hW.toCodeIn hs hW.inst).mono fun e w' h => by
    obtain ⟨⟨a1, a2, a3, n1, m1, n2, m2, n3, m3, he, hw⟩, hb⟩ := h
    have h2 := hw w' (fun _ _ _ h => h)
    rw [renA, if_pos hE, hX] at he h2
    rw [(checkQ_zero c0).2 hE] at he
    exact ⟨⟨a1, a2, a3, n1, m1, n2, m2, n3, m3, he, ⟨h2, hW.inst.keep hb (Nat.le_refl _)⟩⟩, hb⟩
  have HQ : Hid (∀ W b1 b2 b3 k1 l1 k2 l2 k3 l3, CodeI W X b1 b2 b3 k1 l1 k2 l2 k3 l3 → Calls Tryd.prog 27 #[codeV X b1 b2 b3 k1 l1 k2 l2 k3 l3] W fun e w' => (∃ a1 a2 a3 n1 m1 n2 m2 n3 m3, e = .returned (.tuple #[codeV X a1 a2 a3 n1 m1 n2 m2 n3 m3, .int .i64 0]) ∧ CodeI w' X a1 a2 a3 n1 m1 n2 m2 n3 m3) ∧ Below W.heap.size W w') := fun W b1 b2 b3 k1 l1 k2 l2 k3 l3 hW => (RenumberQ_c X b1 b2 b3 k1 l1 k2 l2 k3 l3 W hW.toCodeIn hsX hW.inst).mono fun e w' h => by
    obtain ⟨⟨a1, a2, a3, n1, m1, n2, m2, n3, m3, he, hw⟩, hb⟩ := h
    have h2 := hw w' (fun _ _ _ h => h)
    rw [renA, if_pos hok, hidem] at he h2
    rw [(checkQ_zero X).2 hok] at he
    exact ⟨⟨a1, a2, a3, n1, m1, n2, m2, n3, m3, he, ⟨h2, hW.inst.keep hb (Nat.le_refl _)⟩⟩, hb⟩
  have HD1 : Hid (∀ W, CodeI W c0 da0 oa0 ga0 dl0 dc0 ol0 oc0 gl0 gc0 → Calls Tryd.prog 20 #[codeV c0 da0 oa0 ga0 dl0 dc0 ol0 oc0 gl0 gc0] W fun e w' => ListE D 0 e w' ∧ Below W.heap.size W w') := fun W hW => by have h := DepthsP_c c0 da0 oa0 ga0 dl0 dc0 ol0 oc0 gl0 gc0 W hW.toCodeIn hs hW.inst; rw [depA, if_pos hE, (checkQ_zero c0).2 hE, hD] at h; exact h
  have HD2 : Hid (∀ W b1 b2 b3 k1 l1 k2 l2 k3 l3, CodeI W X b1 b2 b3 k1 l1 k2 l2 k3 l3 → Calls Tryd.prog 20 #[codeV X b1 b2 b3 k1 l1 k2 l2 k3 l3] W fun e w' => ListE D 0 e w' ∧ Below W.heap.size W w') := fun W b1 b2 b3 k1 l1 k2 l2 k3 l3 hW => by have h := DepthsP_c X b1 b2 b3 k1 l1 k2 l2 k3 l3 W hW.toCodeIn hsX hW.inst; rw [depA, if_pos hok, (checkQ_zero X).2 hok, hDX] at h; exact h
  have HR1 : Hid (∀ W, CodeI W c0 da0 oa0 ga0 dl0 dc0 ol0 oc0 gl0 gc0 → Calls Tryd.prog 22 #[codeV c0 da0 oa0 ga0 dl0 dc0 ol0 oc0 gl0 gc0] W fun e w' => ListE M 0 e w' ∧ Below W.heap.size W w') := fun W hW => by have h := RoomP_c c0 da0 oa0 ga0 dl0 dc0 ol0 oc0 gl0 gc0 W hW.toCodeIn hs hW.inst; rw [roomA, if_pos hE, (checkQ_zero c0).2 hE, hD, hM] at h; exact h
  have HR2 : Hid (∀ W b1 b2 b3 k1 l1 k2 l2 k3 l3, CodeI W X b1 b2 b3 k1 l1 k2 l2 k3 l3 → Calls Tryd.prog 22 #[codeV X b1 b2 b3 k1 l1 k2 l2 k3 l3] W fun e w' => ListE M 0 e w' ∧ Below W.heap.size W w') := fun W b1 b2 b3 k1 l1 k2 l2 k3 l3 hW => by have h := RoomP_c X b1 b2 b3 k1 l1 k2 l2 k3 l3 W hW.toCodeIn hsX hW.inst; rw [roomA, if_pos hok, (checkQ_zero X).2 hok, hDX, hMX] at h; exact h
  have HM : Hid (∀ W a1 a2 a3 n1 m1 n2 m2 n3 m3 b1 b2 b3 k1 l1 k2 l2 k3 l3, CodeI W X a1 a2 a3 n1 m1 n2 m2 n3 m3 → CodeI W X b1 b2 b3 k1 l1 k2 l2 k3 l3 → Calls Tryd.prog 17 #[codeV X a1 a2 a3 n1 m1 n2 m2 n3 m3, codeV X b1 b2 b3 k1 l1 k2 l2 k3 l3] W fun e w' => e = .returned (.bool true) ∧ Below W.heap.size W w') := fun W a1 a2 a3 n1 m1 n2 m2 n3 m3 b1 b2 b3 k1 l1 k2 l2 k3 l3 hW hV => (SameC_c X X a1 a2 a3 b1 b2 b3 n1 m1 n2 m2 n3 m3 k1 l1 k2 l2 k3 l3 W hW.toCodeIn hV.toCodeIn).mono fun e w' h => by
    obtain ⟨⟨t, rfl, ht⟩, hb⟩ := h
    rw [ht.2 rfl]; exact ⟨rfl, hb⟩
  obtain ⟨name, data, ops, globals, procs, labels⟩ := c0
  obtain ⟨xn, xd, xo, xg, xp, xl⟩ := X
  dsimp only at HLX HOL
  clear w0 z0 hh htx hs hE hok hidem hD hM hX hXo hsX hDX hMX hlX
  have tka : True := trivial
  go_enter Tryd.func9, Tryd.ntmps9
  go_wp2_with (first
    | (go_at_call 13; refine (HV.out _ (HC.out.keep (below_alloc _ _))).mono ?_; rintro e w1 ⟨rfl, hb1⟩; have BC := Lib.hid ((BoxC.new w ⟨name, data, ops, globals, procs, labels⟩ da0 oa0 ga0 dl0 dc0 ol0 oc0 gl0 gc0 26).keep hb1 (by simp)); have HL := Lib.hid (below_then (below_alloc _ _) hb1); obtain ⟨c0, c1, c2, c3, c4, c5⟩ := BC.out)
    | (go_at_call 27; have _t := tka; clear _t tka; have tkb : True := trivial; refine (HP.out _ (HC.out.keep HL.out)).mono ?_; rintro e w2 ⟨⟨pa2, pb2, pc2, pd2, pe2, pf2, pg2, ph2, pi2, rfl, hr2⟩, hb2⟩; obtain rfl : ol0 = pf2 := (by have h1 := hr2.ops.len.1; have h2 := HLX.out; have h3 := HOL.out; dsimp only at h1; omega); have BC := Lib.hid (BC.out.keep hb2 BC.out.lt); have HL := Lib.hid (below_then HL.out hb2); have AL : Hid (Below w2.heap.size w2 (w2.alloc (.cells #[.string ⟨xn.toArray⟩, .slice pa2 pd2 pe2, .slice pb2 ol0 pg2, .slice pc2 ph2 pi2, .int .i64 xp, .int .i64 xl] 26))) := below_alloc _ _; have BC := Lib.hid (BC.out.keep AL.out BC.out.lt); have HL := Lib.hid (below_then HL.out AL.out); have RD := Lib.hid (hr2.keep AL.out); have BD := Lib.hid (BoxC.new w2 ⟨xn, xd, xo, xg, xp, xl⟩ pa2 pb2 pc2 pd2 pe2 ol0 pg2 ph2 pi2 26); clear hr2; clear c0 c1 c2 c3 c4 c5; obtain ⟨c0, c1, c2, c3, c4, c5⟩ := BC.out; obtain ⟨u0, u1, u2, u3, u4, u5⟩ := BD.out)
    | (go_at_call 27; have _t := tkb; clear _t tkb; have tkc : True := trivial; refine (HQ.out _ _ _ _ _ _ _ _ _ _ RD.out).mono ?_; rintro e w3 ⟨⟨pa3, pb3, pc3, pd3, pe3, pf3, pg3, ph3, pi3, rfl, hr3⟩, hb3⟩; obtain rfl : ol0 = pf3 := (by have h1 := hr3.ops.len.1; have h2 := HLX.out; have h3 := HOL.out; dsimp only at h1; omega); have BC := Lib.hid (BC.out.keep hb3 BC.out.lt); have HL := Lib.hid (below_then HL.out hb3); have BD := Lib.hid (BD.out.keep hb3 BD.out.lt); have RD := Lib.hid (RD.out.keep hb3); have AL : Hid (Below w3.heap.size w3 (w3.alloc (.cells #[.string ⟨xn.toArray⟩, .slice pa3 pd3 pe3, .slice pb3 ol0 pg3, .slice pc3 ph3 pi3, .int .i64 xp, .int .i64 xl] 26))) := below_alloc _ _; have BC := Lib.hid (BC.out.keep AL.out BC.out.lt); have HL := Lib.hid (below_then HL.out AL.out); have BD := Lib.hid (BD.out.keep AL.out BD.out.lt); have RD := Lib.hid (RD.out.keep AL.out); have RX := Lib.hid (hr3.keep AL.out); have BX := Lib.hid (BoxC.new w3 ⟨xn, xd, xo, xg, xp, xl⟩ pa3 pb3 pc3 pd3 pe3 ol0 pg3 ph3 pi3 26); clear hr3; clear c0 c1 c2 c3 c4 c5; obtain ⟨c0, c1, c2, c3, c4, c5⟩ := BC.out; clear u0 u1 u2 u3 u4 u5; obtain ⟨u0, u1, u2, u3, u4, u5⟩ := BD.out; obtain ⟨v0, v1, v2, v3, v4, v5⟩ := BX.out)
    | (go_at_call 20; have _t := tkc; clear _t tkc; have tkd : True := trivial; refine (HD1.out _ (HC.out.keep HL.out)).mono ?_; rintro e w4 ⟨⟨v4l, rfl, hr4⟩, hb4⟩; have BC := Lib.hid (BC.out.keep hb4 BC.out.lt); have HL := Lib.hid (below_then HL.out hb4); have BD := Lib.hid (BD.out.keep hb4 BD.out.lt); have RD := Lib.hid (RD.out.keep hb4); have BX := Lib.hid (BX.out.keep hb4 BX.out.lt); have RX := Lib.hid (RX.out.keep hb4); have G4 := Lib.hid hr4; clear hr4; clear c0 c1 c2 c3 c4 c5; obtain ⟨c0, c1, c2, c3, c4, c5⟩ := BC.out; clear u0 u1 u2 u3 u4 u5; obtain ⟨u0, u1, u2, u3, u4, u5⟩ := BD.out; clear v0 v1 v2 v3 v4 v5; obtain ⟨v0, v1, v2, v3, v4, v5⟩ := BX.out)
    | (go_at_call 20; have _t := tkd; clear _t tkd; have tke : True := trivial; refine (HD2.out _ _ _ _ _ _ _ _ _ _ RD.out).mono ?_; rintro e w5 ⟨⟨v5l, rfl, hr5⟩, hb5⟩; have BC := Lib.hid (BC.out.keep hb5 BC.out.lt); have HL := Lib.hid (below_then HL.out hb5); have BD := Lib.hid (BD.out.keep hb5 BD.out.lt); have RD := Lib.hid (RD.out.keep hb5); have BX := Lib.hid (BX.out.keep hb5 BX.out.lt); have RX := Lib.hid (RX.out.keep hb5); have G4 := Lib.hid (G4.out.keep hb5); have G5 := Lib.hid hr5; clear hr5; clear c0 c1 c2 c3 c4 c5; obtain ⟨c0, c1, c2, c3, c4, c5⟩ := BC.out; clear u0 u1 u2 u3 u4 u5; obtain ⟨u0, u1, u2, u3, u4, u5⟩ := BD.out; clear v0 v1 v2 v3 v4 v5; obtain ⟨v0, v1, v2, v3, v4, v5⟩ := BX.out)
    | (go_at_call 22; have _t := tke; clear _t tke; have tkf : True := trivial; refine (HR1.out _ (HC.out.keep HL.out)).mono ?_; rintro e w6 ⟨⟨v6l, rfl, hr6⟩, hb6⟩; have BC := Lib.hid (BC.out.keep hb6 BC.out.lt); have HL := Lib.hid (below_then HL.out hb6); have BD := Lib.hid (BD.out.keep hb6 BD.out.lt); have RD := Lib.hid (RD.out.keep hb6); have BX := Lib.hid (BX.out.keep hb6 BX.out.lt); have RX := Lib.hid (RX.out.keep hb6); have G4 := Lib.hid (G4.out.keep hb6); have G5 := Lib.hid (G5.out.keep hb6); have G6 := Lib.hid hr6; clear hr6; clear c0 c1 c2 c3 c4 c5; obtain ⟨c0, c1, c2, c3, c4, c5⟩ := BC.out; clear u0 u1 u2 u3 u4 u5; obtain ⟨u0, u1, u2, u3, u4, u5⟩ := BD.out; clear v0 v1 v2 v3 v4 v5; obtain ⟨v0, v1, v2, v3, v4, v5⟩ := BX.out)
    | (go_at_call 22; have _t := tkf; clear _t tkf; have tkg : True := trivial; refine (HR2.out _ _ _ _ _ _ _ _ _ _ RD.out).mono ?_; rintro e w7 ⟨⟨v7l, rfl, hr7⟩, hb7⟩; have BC := Lib.hid (BC.out.keep hb7 BC.out.lt); have HL := Lib.hid (below_then HL.out hb7); have BD := Lib.hid (BD.out.keep hb7 BD.out.lt); have RD := Lib.hid (RD.out.keep hb7); have BX := Lib.hid (BX.out.keep hb7 BX.out.lt); have RX := Lib.hid (RX.out.keep hb7); have G4 := Lib.hid (G4.out.keep hb7); have G5 := Lib.hid (G5.out.keep hb7); have G6 := Lib.hid (G6.out.keep hb7); have G7 := Lib.hid hr7; clear hr7; clear c0 c1 c2 c3 c4 c5; obtain ⟨c0, c1, c2, c3, c4, c5⟩ := BC.out; clear u0 u1 u2 u3 u4 u5; obtain ⟨u0, u1, u2, u3, u4, u5⟩ := BD.out; clear v0 v1 v2 v3 v4 v5; obtain ⟨v0, v1, v2, v3, v4, v5⟩ := BX.out)
    | (go_at_call 17; refine (HM.out _ _ _ _ _ _ _ _ _ _ _ _ _ _ _ _ _ _ _ RD.out RX.out).mono ?_; rintro e w8 ⟨rfl, hb8⟩; have BC := Lib.hid (BC.out.keep hb8 BC.out.lt); have HL := Lib.hid (below_then HL.out hb8); have BD := Lib.hid (BD.out.keep hb8 BD.out.lt); have RD := Lib.hid (RD.out.keep hb8); have BX := Lib.hid (BX.out.keep hb8 BX.out.lt); have RX := Lib.hid (RX.out.keep hb8); have G4 := Lib.hid (G4.out.keep hb8); have G5 := Lib.hid (G5.out.keep hb8); have G6 := Lib.hid (G6.out.keep hb8); have G7 := Lib.hid (G7.out.keep hb8); clear c0 c1 c2 c3 c4 c5; obtain ⟨c0, c1, c2, c3, c4, c5⟩ := BC.out; clear u0 u1 u2 u3 u4 u5; obtain ⟨u0, u1, u2, u3, u4, u5⟩ := BD.out; clear v0 v1 v2 v3 v4 v5; obtain ⟨v0, v1, v2, v3, v4, v5⟩ := BX.out)
    | (go_at_call 26; have _t := tkg; clear _t tkg; have tkh : True := trivial; refine (EqInts_yes _ _ D _ G4.out G5.out).mono ?_; rintro e w9 ⟨rfl, hb9⟩; have BC := Lib.hid (BC.out.keep hb9 BC.out.lt); have HL := Lib.hid (below_then HL.out hb9); have BD := Lib.hid (BD.out.keep hb9 BD.out.lt); have RD := Lib.hid (RD.out.keep hb9); have BX := Lib.hid (BX.out.keep hb9 BX.out.lt); have RX := Lib.hid (RX.out.keep hb9); have G4 := Lib.hid (G4.out.keep hb9); have G5 := Lib.hid (G5.out.keep hb9); have G6 := Lib.hid (G6.out.keep hb9); have G7 := Lib.hid (G7.out.keep hb9); clear c0 c1 c2 c3 c4 c5; obtain ⟨c0, c1, c2, c3, c4, c5⟩ := BC.out; clear u0 u1 u2 u3 u4 u5; obtain ⟨u0, u1, u2, u3, u4, u5⟩ := BD.out; clear v0 v1 v2 v3 v4 v5; obtain ⟨v0, v1, v2, v3, v4, v5⟩ := BX.out)
    | (go_at_call 26; have _t := tkh; clear _t tkh; have tki : True := trivial; refine (EqInts_yes _ _ M _ G6.out G7.out).mono ?_; rintro e w10 ⟨rfl, hb10⟩; have BC := Lib.hid (BC.out.keep hb10 BC.out.lt); have HL := Lib.hid (below_then HL.out hb10); have BD := Lib.hid (BD.out.keep hb10 BD.out.lt); have RD := Lib.hid (RD.out.keep hb10); have BX := Lib.hid (BX.out.keep hb10 BX.out.lt); have RX := Lib.hid (RX.out.keep hb10); have G4 := Lib.hid (G4.out.keep hb10); have G5 := Lib.hid (G5.out.keep hb10); have G6 := Lib.hid (G6.out.keep hb10); have G7 := Lib.hid (G7.out.keep hb10); clear c0 c1 c2 c3 c4 c5; obtain ⟨c0, c1, c2, c3, c4, c5⟩ := BC.out; clear u0 u1 u2 u3 u4 u5; obtain ⟨u0, u1, u2, u3, u4, u5⟩ := BD.out; clear v0 v1 v2 v3 v4 v5; obtain ⟨v0, v1, v2, v3, v4, v5⟩ := BX.out)
    | (go_at_call 14; refine (awake_c _ (HC.out.inst.keep (by repeat (first | assumption | exact HL4.out | exact HL2.out | exact HL1.out | exact below_then HL3.out hbl | exact Below.refl _ _ | exact below_alloc _ _ | refine below_back (by assumption) ?_ | refine below_then ?_ (below_alloc _ _) | refine Below.drew ?_ | refine below_drewN ?_ _ | refine below_then ?_ hb9 | refine below_then ?_ hb8 | refine below_then ?_ hb7 | refine below_then ?_ hb6 | refine below_then ?_ hb5 | refine below_then ?_ hb4 | refine below_then ?_ hb3 | refine below_then ?_ hb2 | refine below_then ?_ hb1 | exact HBL.out | exact HBW.out | exact HL.out)) (Nat.le_refl _))).mono ?_; rintro e w11 ⟨rfl, hb11⟩))
  go_ret
  exact ⟨rfl, below_then HL.out hb11⟩

theorem contract (H : Type) (enc : TypeId × Value → H) (W : World) (base : Nat) (args : Array Value) (ds gs : List (DataW H)) (before : List MemPlace)
    (hval : ∀ (j : Nat) t v, Tryd.f9.params[j]? = some t → args[j]? = some v → Value.okWide Tryd.prog W .any base t v)
    (hW : DataW.Whole enc Tryd.prog Tryd.f9.params.toList Rows.ocodeAgainSpec.vars false W args.toList ds gs before)
    (hsz : (DataW.weightsEach Tryd.prog (Tryd.f9.params.toList ++ Rows.ocodeAgainSpec.plain.varTypes Tryd.prog) (ds ++ gs)).all (· ≤ reachBytes) = true) (hL : laidMetH Tryd.prog Rows.ocodeAgainRow.laid W) :
    Calls Tryd.prog 9 args W fun e W' => ∃ v, e = .returned v ∧ Rows.ocodeAgainSpec.post enc Tryd.prog Tryd.f9 false true false false W args v W' := by
  have hW' := hW
  obtain ⟨p, q, hA0, hV, rfl, hfz, hnd⟩ := hW
  have hA : DataW.TrodAll enc Tryd.prog W 0 (fun _ => true) true Tryd.f9.params.toList args.toList ds p := hA0
  rw [Tryd.params9] at hA hval hsz
  obtain ⟨v0, vs0, d0, ds0, p0, q0, hargs, rfl, rfl, h0, r0⟩ := trodAll_cons hA
  obtain ⟨rfl, rfl, rfl⟩ := trodAll_nil r0
  obtain rfl : args = #[v0] := by cases args; simp_all
  obtain ⟨rfl, rfl⟩ := trodVars_none hV
  have k0 := h0
  have lt0 : ∀ x ∈ p0, x.block < W.heap.size := by obtain ⟨m, hm⟩ := k0; exact DataW.trod_lt m _ _ _ hm
  obtain ⟨c0, da0, oa0, ga0, dl0, dc0, ol0, oc0, gl0, gc0, rfl, w0, z0⟩ := open_code (hval 0 26 v0 rfl rfl) h0 (fun n hn => by have := List.all_eq_true.1 hsz n (DataW.weights_mem_each (j := 0) rfl rfl n hn); simpa using this)
  clear hA0
  have hi : InstAt W := instAt_of hL
  refine (walk c0 da0 oa0 ga0 dl0 dc0 ol0 oc0 gl0 gc0 W w0 z0 hi).mono fun e W' ⟨he, bel⟩ => ?_
  subst he
  exact ⟨_, rfl, _, _, _, [], _, [], hW', trodAll_mk1 (shut_bool Tryd.underlying4 _), (trodAll_cons_mk (Below.trod laidOut (by kernel_rfl) (of_decide_eq_true (by kernel_rfl)) k0 bel lt0) trodAll_mk0), rfl, bel.frame _, fun h => by cases h⟩

theorem laid_met (os : Os) : laidMet Tryd.prog Rows.ocodeAgainRow.laid ((laidWorld os).forCall (fun _ _ => 0) ⟨#[], #[.agg #[.string ⟨#[]⟩, .slice none 0 0, .slice none 0 0, .slice none 0 0, .int .i64 0, .int .i64 0]], []⟩).memory :=
  laidMet_of_run' 8 (by kernel_rfl) (by kernel_rfl)
set_option maxRecDepth 100000 in
theorem lifted (os : Os) (started : os.Started) (H : Type) (enc : TypeId × Value → H) (F : Stop.Interp) :
    ReturnsInHanded {} Tryd.checked os 9 .any ((OpenSpec.ofChange Rows.ocodeAgainSpec).preRow enc Tryd.prog Tryd.f9 Rows.ocodeAgainRow.domain false Rows.ocodeAgainRow.laid) (((OpenSpec.ofChange Rows.ocodeAgainSpec).at F).post enc Tryd.prog Tryd.f9 false true false false) := by
  refine returnsInHanded_of_row (C := Tryd.checked) (s := OpenSpec.ofChange Rows.ocodeAgainSpec) own started (by kernel_rfl) Tryd.func9
    (witness_row_at (enc := enc) (C := Tryd.checked) false (laidWorld os) #[.agg #[.string ⟨#[]⟩, .slice none 0 0, .slice none 0 0, .slice none 0 0, .int .i64 0, .int .i64 0]] rfl (by kernel_rfl) (by kernel_rfl) (by kernel_rfl)
      (OpenSpec.preRow_of_cond 8 (x := ([.agg [.lit (.string []), .nil, .nil, .nil, .lit (.int .i64 0), .lit (.int .i64 0)]], [], [])) (by kernel_rfl) (by kernel_rfl) (fun k hk => by cases hk) (by kernel_rfl) (laid_met os))) ?_
  intro W base args ds gs before hval hW _ _ hsz hL _ _
  exact contract H enc W base args ds gs before hval hW hsz hL
theorem said : Rows.OcodeAgainSaid :=
  OpenClaim.holds_of_cond 9 Tryd.f9 rfl rfl rfl rfl rfl rfl rfl ⟨rfl, rfl, rfl, rfl, rfl⟩ rfl rfl rfl rfl rfl (by kernel_rfl) Tryd.func9 (by kernel_rfl)
    (of_decide_eq_true (by kernel_rfl)) (by unfold Func.isWrapper; first | (rw [if_pos (by decide +kernel)]; kernel_rfl) | (rw [if_neg (by decide +kernel)]; exact ⟨rfl, rfl⟩))
    (fun os started H enc _ F => by rw [OpenClaim.pre_eq_preRow]; exact lifted os started H enc F)
theorem plain (f : FuncId) (fn : Func) (hf : Tryd.pinned.checked.prog.funcNamed "bluebell/bluebelllaw06.OcodeAgain" = some f) (hfn : Tryd.pinned.checked.prog.funcs[f]? = some fn) :
    false = Tryd.pinned.checked.prog.looks [] ∧ ∀ (j : Nat) t, fn.params[j]? = some t → Tryd.pinned.checked.prog.wantsStandIn t = false := by
  obtain rfl : f = 9 := Option.some.inj ((show Tryd.prog.funcNamed "bluebell/bluebelllaw06.OcodeAgain" = some 9 by kernel_rfl).symm.trans hf) |>.symm
  obtain rfl : fn = Tryd.f9 := (Option.some.inj (Tryd.func9.symm.trans hfn)).symm
  refine ⟨by kernel_rfl, fun j t ht => ?_⟩
  rw [Tryd.params9] at ht
  have hm := Array.mem_of_getElem? ht
  simp at hm
  subst hm
  exact (show Tryd.prog.wantsStandIn 26 = false by kernel_rfl)
theorem card : Rows.OcodeAgainCardSaid :=
  Claim7.holds_tied_plain_at .later [] _ _ _ _ said (fun _ h => by cases h) (by kernel_rfl) (fun _ h => by cases h) ocodeAgain_row_tie rfl ⟨rfl, rfl⟩ (by kernel_rfl) rfl plain (by kernel_rfl)
end Go.Proofs.YthlakfgpmggceaaDoor.ocodeAgain
namespace Go.Proofs.YthlakfgpmggceaaDoor
theorem ocodeAgain_holds : Rows.OcodeAgainCardSaid := ocodeAgain.card
end Go.Proofs.YthlakfgpmggceaaDoor
