/- The card of the statement OcodeDown holds: the law returns true for all its arguments, and they read behind the call as before; the table of instructions that the row lists is tied to the program's text. -/
import Derived.Test.YthlakfgpmggceaaDoorOcLd
import Derived.Test.YthlakfgpmggceaaDoorOcAw
import Derived.Test.YthlakfgpmggceaaDoorOcSd
import Derived.Test.YthlakfgpmggceaaDoorOcLw
import Derived.Test.YthlakfgpmggceaaDoorOcRq
import Derived.HandedShaped
namespace Go.Proofs.YthlakfgpmggceaaDoor.ocodeDown
open Go.ChangeShapes Go.WideShapes Go.ChangeAt Go.RowKit Go.Joins 
open Go.ChangeMaps (open_string shut_string)
set_option linter.unusedVariables false
set_option linter.unusedSimpArgs false
set_option maxRecDepth 100000
set_option maxRecDepth 100000 in
set_option maxHeartbeats 32000000 in
theorem walk (c0 : OC.Code) (da0 oa0 ga0 : Option Addr) (dl0 dc0 ol0 oc0 gl0 gc0 : Nat) (w : World) (w0 : CodeIn w c0 da0 oa0 ga0 dl0 dc0 ol0 oc0 gl0 gc0) (z0 : OkC c0) (hi : InstAt w) :
    Calls Tryd.prog 11 #[codeV c0 da0 oa0 ga0 dl0 dc0 ol0 oc0 gl0 gc0] w fun e w' => e = .returned (.bool true) ∧ Below w.heap.size w w' := by
  have HC := Lib.hid (CodeI.mk w0 hi)
  have htx : ∀ d ∈ c0.data, d.text.length ≤ 140737488351232 := fun d hd => (z0.data d hd).1
  have HV : Hid (∀ W, CodeI W c0 da0 oa0 ga0 dl0 dc0 ol0 oc0 gl0 gc0 → Calls Tryd.prog 13 #[codeV c0 da0 oa0 ga0 dl0 dc0 ol0 oc0 gl0 gc0] W fun e w' => e = .returned (.bool (heavyC c0 40100)) ∧ Below W.heap.size W w') := fun W hW => heavy_c c0 da0 oa0 ga0 dl0 dc0 ol0 oc0 gl0 gc0 W hW.toCodeIn htx
  by_cases hh : heavyC c0 40100 = true
  · rw [hh] at HV
    obtain ⟨name, data, ops, globals, procs, labels⟩ := c0
    clear w0 z0 hh htx
    go_enter Tryd.func11, Tryd.ntmps11
    go_wp2_with (first
      | (go_at_call 13; refine (HV.out _ (HC.out.keep (below_alloc _ _))).mono ?_; rintro e w1 ⟨rfl, hb1⟩; obtain ⟨hcc1, hff1⟩ := bcell hb1; have z1 := hb1.size; have zw1 : w.heap.size < w1.heap.size := (by first | omega | (simp at z1; omega)))
      | (go_at_call 14; refine (awake_c _ (HC.out.inst.keep (by repeat (first | assumption | exact HL4.out | exact below_then HL3.out hbl | exact Below.refl _ _ | exact below_alloc _ _ | refine below_back (by assumption) ?_ | refine below_then ?_ (below_alloc _ _) | refine Below.drew ?_ | refine below_drewN ?_ _ | refine below_then ?_ hb9 | refine below_then ?_ hb8 | refine below_then ?_ hb7 | refine below_then ?_ hb6 | refine below_then ?_ hb5 | refine below_then ?_ hb4 | refine below_then ?_ hb3 | refine below_then ?_ hb2 | refine below_then ?_ hb1 | exact HBL.out | exact HBW.out | exact HL.out)) (Nat.le_refl _))).mono ?_; rintro e w2 ⟨rfl, hb2⟩; obtain ⟨hcc2, hff2⟩ := bcell hb2; have z2 := hb2.size; have zw2 : w.heap.size < w2.heap.size := (by first | omega | (simp at z2; omega))))
    go_ret
    exact ⟨rfl, (by repeat (first | exact Below.refl _ _ | exact below_alloc _ _ | refine below_then ?_ (below_alloc _ _) | refine Below.drew ?_ | refine below_drewN ?_ _ | refine below_then ?_ hb9 | refine below_then ?_ hb8 | refine below_then ?_ hb7 | refine below_then ?_ hb6 | refine below_then ?_ hb5 | refine below_then ?_ hb4 | refine below_then ?_ hb3 | refine below_then ?_ hb2 | refine below_then ?_ hb1))⟩
  have hs : Small c0 := small_of (by simpa using hh)
  rw [Bool.not_eq_true] at hh
  rw [hh] at HV
  have HS := Lib.hid hs
  by_cases hE : checkE c0 = 0
  case neg =>
    obtain ⟨E, hE2⟩ : ∃ E, checkQ c0 = E := ⟨_, rfl⟩
    have hE3 : E ≠ 0 := fun h => hE ((checkQ_zero c0).1 (hE2.trans h))
    have ee : ((E : Int) != 0) = true := by simp; omega
    have HJ : Hid (∀ W, CodeI W c0 da0 oa0 ga0 dl0 dc0 ol0 oc0 gl0 gc0 → Calls Tryd.prog 20 #[codeV c0 da0 oa0 ga0 dl0 dc0 ol0 oc0 gl0 gc0] W fun e w' => ListE [] E e w' ∧ Below W.heap.size W w') := fun W hW => by have h := DepthsP_c c0 da0 oa0 ga0 dl0 dc0 ol0 oc0 gl0 gc0 W hW.toCodeIn hs hW.inst; rw [depA, if_neg hE, hE2] at h; exact h
    have HR : Hid (∀ W, CodeI W c0 da0 oa0 ga0 dl0 dc0 ol0 oc0 gl0 gc0 → Calls Tryd.prog 22 #[codeV c0 da0 oa0 ga0 dl0 dc0 ol0 oc0 gl0 gc0] W fun e w' => ListE [] E e w' ∧ Below W.heap.size W w') := fun W hW => by have h := RoomP_c c0 da0 oa0 ga0 dl0 dc0 ol0 oc0 gl0 gc0 W hW.toCodeIn hs hW.inst; rw [roomA, if_neg hE, hE2] at h; exact h
    have HP : Hid (∀ W, CodeI W c0 da0 oa0 ga0 dl0 dc0 ol0 oc0 gl0 gc0 → Calls Tryd.prog 15 #[codeV c0 da0 oa0 ga0 dl0 dc0 ol0 oc0 gl0 gc0] W fun e w' => e = .returned (.int .i64 (E : Int)) ∧ Below W.heap.size W w') := fun W hW => by have h := CheckQ_c c0 da0 oa0 ga0 dl0 dc0 ol0 oc0 gl0 gc0 W hW.toCodeIn hs hW.inst; rw [hE2] at h; exact h
    obtain ⟨name, data, ops, globals, procs, labels⟩ := c0
    clear w0 z0 hh htx hs hE hE2
    go_enter Tryd.func11, Tryd.ntmps11
    go_wp2_with (first
      | (go_at_call 13; refine (HV.out _ (HC.out.keep (below_alloc _ _))).mono ?_; rintro e w1 ⟨rfl, hb1⟩; have HB1 := Lib.hid ((BoxC.new w ⟨name, data, ops, globals, procs, labels⟩ da0 oa0 ga0 dl0 dc0 ol0 oc0 gl0 gc0 26).keep hb1 (by simp)); have HL1 := Lib.hid (below_then (below_alloc _ _) hb1); obtain ⟨c0, c1, c2, c3, c4, c5⟩ := HB1.out)
      | (go_at_call 20; refine (HJ.out _ (HC.out.keep HL1.out)).mono ?_; rintro e w2 ⟨⟨v2, rfl, hr2⟩, hb2⟩; have HB2 := Lib.hid (HB1.out.keep hb2 HB1.out.lt); have HL2 := Lib.hid (below_then HL1.out hb2); clear c0 c1 c2 c3 c4 c5; obtain ⟨c0, c1, c2, c3, c4, c5⟩ := HB2.out)
      | (go_at_call 22; refine (HR.out _ (HC.out.keep HL2.out)).mono ?_; rintro e w3 ⟨⟨v3, rfl, hr3⟩, hb3⟩; have HB3 := Lib.hid (HB2.out.keep hb3 HB2.out.lt); have HL3 := Lib.hid (below_then HL2.out hb3); clear c0 c1 c2 c3 c4 c5; obtain ⟨c0, c1, c2, c3, c4, c5⟩ := HB3.out)
      | (go_at_call 15; refine (HP.out _ (HC.out.keep HL3.out)).mono ?_; rintro e w4 ⟨rfl, hb4⟩; have HB4 := Lib.hid (HB3.out.keep hb4 HB3.out.lt); have HL4 := Lib.hid (below_then HL3.out hb4); clear c0 c1 c2 c3 c4 c5; obtain ⟨c0, c1, c2, c3, c4, c5⟩ := HB4.out)
      | (go_at_call 14; refine (awake_c _ (HC.out.inst.keep (by repeat (first | assumption | exact HL4.out | exact below_then HL3.out hbl | exact Below.refl _ _ | exact below_alloc _ _ | refine below_back (by assumption) ?_ | refine below_then ?_ (below_alloc _ _) | refine Below.drew ?_ | refine below_drewN ?_ _ | refine below_then ?_ hb9 | refine below_then ?_ hb8 | refine below_then ?_ hb7 | refine below_then ?_ hb6 | refine below_then ?_ hb5 | refine below_then ?_ hb4 | refine below_then ?_ hb3 | refine below_then ?_ hb2 | refine below_then ?_ hb1 | exact HBL.out | exact HBW.out | exact HL.out)) (Nat.le_refl _))).mono ?_; rintro e w5 ⟨rfl, hb5⟩))
    go_ret
    exact ⟨rfl, below_then HL4.out hb5⟩
  obtain ⟨hnum, hord, _, _, hp0, hp1, t, _, _, hdp⟩ := checkE_ok hE
  obtain ⟨D, hD⟩ : ∃ D, depG 0 c0.ops = D := ⟨_, rfl⟩
  obtain ⟨M, hM⟩ : ∃ M, roomG c0.ops D [] = M := ⟨_, rfl⟩
  have HJ : Hid (∀ W, CodeI W c0 da0 oa0 ga0 dl0 dc0 ol0 oc0 gl0 gc0 → Calls Tryd.prog 20 #[codeV c0 da0 oa0 ga0 dl0 dc0 ol0 oc0 gl0 gc0] W fun e w' => ListE D 0 e w' ∧ Below W.heap.size W w') := fun W hW => by have h := DepthsP_c c0 da0 oa0 ga0 dl0 dc0 ol0 oc0 gl0 gc0 W hW.toCodeIn hs hW.inst; rw [depA, if_pos hE, (checkQ_zero c0).2 hE, hD] at h; exact h
  have HR : Hid (∀ W, CodeI W c0 da0 oa0 ga0 dl0 dc0 ol0 oc0 gl0 gc0 → Calls Tryd.prog 22 #[codeV c0 da0 oa0 ga0 dl0 dc0 ol0 oc0 gl0 gc0] W fun e w' => ListE M 0 e w' ∧ Below W.heap.size W w') := fun W hW => by have h := RoomP_c c0 da0 oa0 ga0 dl0 dc0 ol0 oc0 gl0 gc0 W hW.toCodeIn hs hW.inst; rw [roomA, if_pos hE, (checkQ_zero c0).2 hE, hD, hM] at h; exact h
  obtain ⟨hol, hoc, _⟩ := w0.ops.len
  have hol2 := hs.ops
  rw [← hol] at hol2
  have hDl : D.length = ol0 := by rw [← hD, depG_len, ← hol]
  have hMl : (M.length : Int) = c0.procs := by
    have h1 := orderB_procs c0.ops _ _ _ _ _ _ _ (by simpa [OC.orderOk] using hord)
    have h2 := roomG_len c0.ops D [] (by rw [hDl, ← hol]; exact Nat.le_refl _)
    rw [hM] at h2
    simp at h2
    omega
  have HDP : Hid (DeepOk c0.ops t 0 c0.ops) := ⟨_, _, hdp⟩
  have HN := Lib.hid hnum
  have HO := Lib.hid hol
  have HDL := Lib.hid hDl
  have HD0 : Hid (D = depG 0 c0.ops) := hD.symm
  have HM0 : Hid (M = roomG c0.ops D []) := hM.symm
  obtain ⟨pr, hpr⟩ : ∃ n : Nat, M.length = n := ⟨_, rfl⟩
  rw [hpr] at hMl
  have HML := Lib.hid hpr
  obtain ⟨name, data, ops, globals, procs, labels⟩ := c0
  dsimp only at *
  subst hMl
  have hprb : pr ≤ 200 := by omega
  clear w0 z0 hh htx hs hE hD hM hnum hord hdp hol hDl hpr hp0
  go_enter Tryd.func11, Tryd.ntmps11
  go_wp2_with (first
    | (go_at_call 13; refine (HV.out _ (HC.out.keep (below_alloc _ _))).mono ?_; rintro e w1 ⟨rfl, hb1⟩; have HB1 := Lib.hid ((BoxC.new w ⟨name, data, ops, globals, (pr : Int), labels⟩ da0 oa0 ga0 dl0 dc0 ol0 oc0 gl0 gc0 26).keep hb1 (by simp)); have HL1 := Lib.hid (below_then (below_alloc _ _) hb1); obtain ⟨c0, c1, c2, c3, c4, c5⟩ := HB1.out)
    | (go_at_call 20; refine (HJ.out _ (HC.out.keep HL1.out)).mono ?_; rintro e w2 ⟨⟨v2, rfl, hr2⟩, hb2⟩; have HB2 := Lib.hid (HB1.out.keep hb2 HB1.out.lt); have HL2 := Lib.hid (below_then HL1.out hb2); clear c0 c1 c2 c3 c4 c5; obtain ⟨c0, c1, c2, c3, c4, c5⟩ := HB2.out; obtain ⟨la, lc, hv2, hlc, hx2⟩ := id hr2; subst hv2; rw [HDL.out] at hr2 ⊢; have G2 := Lib.hid hr2; clear hr2 hx2)
    | (go_at_call 22; refine (HR.out _ (HC.out.keep HL2.out)).mono ?_; rintro e w3 ⟨⟨v3, rfl, hr3⟩, hb3⟩; have HB3 := Lib.hid (HB2.out.keep hb3 HB2.out.lt); have HL3 := Lib.hid (below_then HL2.out hb3); clear c0 c1 c2 c3 c4 c5; obtain ⟨c0, c1, c2, c3, c4, c5⟩ := HB3.out; have G2 := Lib.hid (G2.out.keep hb3); obtain ⟨ra, rc, hv3, hrc, hx3⟩ := id hr3; subst hv3; rw [HML.out] at hr3 ⊢; have G3 := Lib.hid hr3; clear hr3 hx3))
  have HLA : Hid (D = [] ∨ ∃ b off, la = some ⟨b, off, none⟩ ∧ ∀ i, i < ol0 → w3.cell? ⟨b, off + i, none⟩ = some (.int .i64 (D.getD i 0))) := by
    obtain ⟨la', lc', he, h1, h2⟩ := G2.out
    simp at he
    obtain ⟨rfl, _, rfl⟩ := he
    show _ ∨ _
    rw [HDL.out] at h2
    exact h2
  have HRA : Hid (M = [] ∨ ∃ b off, ra = some ⟨b, off, none⟩ ∧ ∀ i, i < pr → w3.cell? ⟨b, off + i, none⟩ = some (.int .i64 (M.getD i 0))) := by
    obtain ⟨la', lc', he, h1, h2⟩ := G3.out
    simp at he
    obtain ⟨rfl, _, rfl⟩ := he
    show _ ∨ _
    rw [HML.out] at h2
    exact h2
  have z3 : w.heap.size < w3.heap.size := HB3.out.lt
  clear G2 G3 hb1 hb2 hb3 HB1 HB2 HL1 HL2
  go_loopw [7, 8, 9, 10, 11] (fun vp vt i o d wr => ∃ (k p : Nat) (tp dd : Int) (T : List Int), k ≤ ol0 ∧ p ≤ 40100 ∧ i = .int .i64 k ∧ vp = .int .i64 (p : Int) ∧ vt = .int .i64 tp ∧ 0 ≤ tp ∧ tp ≤ 4000 ∧ 0 ≤ dd ∧ dd ≤ 4000 ∧ T.length = p ∧ p ≤ k ∧ Hid (0 < p → T.getD (p - 1) 0 = tp) ∧ Hid (M = roomG (ops.drop k) (D.drop k) T) ∧ Hid (D.drop k = depG dd (ops.drop k)) ∧ Hid (DeepOk ops t dd (ops.drop k)) ∧ BoxC wr w.heap.size ⟨name, data, ops, globals, (pr : Int), labels⟩ da0 oa0 ga0 dl0 dc0 ol0 oc0 gl0 gc0 ∧ Below w3.heap.size w3 wr) (fun _ _ i _ _ _ => ol0 - (intOf i).toNat)
  case atStart => exact ⟨0, 0, 0, 0, [], Nat.zero_le _, by omega, rfl, rfl, rfl, by omega, by omega, by omega, by omega, rfl, by omega, (fun h => absurd h (by decide) : 0 < 0 → _), HM0.out, HD0.out, HDP.out, HB3.out, Below.refl _ _⟩
  case round =>
    clear HDP HM0 HD0 c0 c1 c2 c3 c4 c5
    obtain ⟨k, p, tp, dd, T, hk, hp, rfl, rfl, rfl, ht0, ht1, hd0, hd1, hTl, hpk, hlast, hroom, hdep, hdeep, hbox, hbl⟩ := hrel
    have HBOX := Lib.hid hbox
    have hwz := hbox.lt
    have hz3 := hbl.size
    by_cases hlt : k < ol0
    · obtain ⟨hx1, b, off, rfl, hat⟩ := HC.out.ops.get hlt
      clear hx1
      have hbw : b < w.heap.size := World.block_lt_of_cell? _ _ hat.1
      have hblw : Below w.heap.size w wr := below_then HL3.out hbl
      obtain ⟨o0, o1, o2⟩ := hat.keep hblw
      have hkl : k < ops.length := by rw [← HO.out]; exact hlt
      have hdrop := dropAt (d := OC.oz) hkl
      have hnb := HN.out _ (getD_map_range ops OC.oz hkl)
      have hkD : k < D.length := by rw [HDL.out]; exact hlt
      have hdropD := dropAt (d := (0 : Int)) hkD
      -- the lists are there
      obtain ⟨bl, ol, rfl, hlat⟩ : ∃ bl ol, la = some ⟨bl, ol, none⟩ ∧ ∀ i, i < ol0 → w3.cell? ⟨bl, ol + i, none⟩ = some (.int .i64 (D.getD i 0)) := by
        rcases HLA.out with h | ⟨bl, ol, h1, h2⟩
        · have := HDL.out; rw [h] at this; simp at this; omega
        · exact ⟨bl, ol, h1, h2⟩
      have l0 := (hbl.cell (p := ⟨bl, ol + k, none⟩) (World.block_lt_of_cell? _ _ (hlat k hlt))).trans (hlat k hlt)
      -- what comes next
      have hnx : Hid (∀ hn : k + 1 < ol0, D.getD (k + 1) 0 = (if (ops.getD (k + 1) OC.oz).op = 24 then 0 else OC.after (ops.getD k OC.oz) (D.getD k 0))) := by
        intro hn
        have e1 := hdep.out
        rw [hdropD, hdrop, depG] at e1
        injection e1 with e2 e3
        rw [dropAt (d := (0 : Int)) (by rw [HDL.out]; exact hn), dropAt (d := OC.oz) (by rw [← HO.out]; exact hn), depG] at e3
        injection e3 with e4 _
        rw [e4, e2]
      have hdep' := hdep.out
      rw [hdropD, hdrop, depG] at hdep'
      injection hdep' with hDk hDr
      have hroom' := hroom.out
      rw [hdropD, hdrop] at hroom'
      obtain ⟨T', hT1, hT2, hT3, hT4⟩ := roomG_step (r := ops.drop (k + 1)) (o := ops.getD k OC.oz) (ds := D.drop (k + 1)) (T := T) (d := D.getD k 0)
      rw [hT1] at hroom'
      have hdeep' := hdeep.out
      rw [hdrop] at hdeep'
      have hen : (ops.getD k OC.oz).op = 24 → 0 ≤ (ops.getD k OC.oz).m ∧ (ops.getD k OC.oz).m ≤ 8 := by
        generalize ops.getD k OC.oz = x at hnb ⊢
        intro e; obtain ⟨op, n, m⟩ := x; simp only at e; subst e; exact numB_enter hnb
      obtain ⟨n1, n2, n3⟩ := hdeep'.next hen
      rw [← hDk] at n1 n2 n3
      have hlow : (ops.getD k OC.oz).op ≠ 24 → 2 ≤ D.getD k 0 := fun h => by rw [hDk, if_neg h]; exact hdeep'.low h
      have hDb : 0 ≤ D.getD k 0 ∧ D.getD k 0 ≤ 4000 := by rw [hDk]; split <;> omega
      have hDe : (ops.getD k OC.oz).op = 24 → D.getD k 0 = 0 := fun h => by rw [hDk, if_pos h]
      rw [← hDk] at hDr
      have hbds := numB_bd hnb
      have hAf : Hid (∀ W, Calls Tryd.prog 35 #[opVal (ops.getD k OC.oz), .int .i64 (D.getD k 0)] W fun e w' => e = .returned (.int .i64 (OC.after (ops.getD k OC.oz) (D.getD k 0))) ∧ Below W.heap.size W w') := fun W => afterR_c _ _ W hbds.2.2.1 hbds.2.2.2.1 hbds.2.2.2.2.1 hbds.2.2.2.2.2 (by omega) (by omega)
      obtain ⟨DD, hDD⟩ : ∃ x, D.getD k 0 = x := ⟨_, rfl⟩
      obtain ⟨x, hx⟩ : ∃ x, ops.getD k OC.oz = x := ⟨_, rfl⟩
      rw [hDD, hx] at hAf hT3 hnx hDr n1 n2 n3 hDe
      rw [hDD] at l0 hDb hlow
      rw [hx] at o0 o1 o2 hlow hT2 hT4
      obtain ⟨A, hA⟩ : ∃ A, OC.after x DD = A := ⟨_, rfl⟩
      rw [hA] at hAf hT3 hnx hDr n1 n2 n3
      have HT3 := Lib.hid hT3
      have HT4 := Lib.hid hT4
      have HR2 := Lib.hid hroom'
      have HD2 := Lib.hid hDr
      have HP2 := Lib.hid n1
      obtain ⟨op, n, m⟩ := x
      dsimp only at o0 o1 o2 hT2 hlow hDe
      clear hroom hdep hdeep hT1 hT3 hT4 hroom' hDr n1 hdeep' hdropD hdrop hnb hbds hen hDk hx hDD hA
      have k1 : (k : Int) < (ol0 : Int) := by omega
      obtain ⟨c0, c1, c2, c3, c4, c5⟩ := hbox
      obtain ⟨T5, hT5⟩ : ∃ T5, T5 = 50 := ⟨_, rfl⟩
      have g0 : (wr.alloc (.cells #[.int .i64 op, .int .i64 n, .int .i64 m] 50)).cell? ⟨wr.heap.size, 0, none⟩ = some (.int .i64 op) := (World.cell?_alloc_at _ _ _ _ rfl).trans rfl
      have g1 : (wr.alloc (.cells #[.int .i64 op, .int .i64 n, .int .i64 m] 50)).cell? ⟨wr.heap.size, 1, none⟩ = some (.int .i64 n) := (World.cell?_alloc_at _ _ _ _ rfl).trans rfl
      have g2 : (wr.alloc (.cells #[.int .i64 op, .int .i64 n, .int .i64 m] 50)).cell? ⟨wr.heap.size, 2, none⟩ = some (.int .i64 m) := (World.cell?_alloc_at _ _ _ _ rfl).trans rfl
      have lq := ((below_alloc wr (.cells #[.int .i64 op, .int .i64 n, .int .i64 m] 50)).cell (p := ⟨bl, ol + k, none⟩) (World.block_lt_of_cell? _ _ l0)).trans l0
      go_wp2_with fail
      go_region_held3 (fun w' => w'.cell? ⟨bl, ol + k, none⟩ = some (.int .i64 DD) ∧ w'.cell? ⟨wr.heap.size, 0, none⟩ = some (.int .i64 op) ∧ w'.cell? ⟨wr.heap.size, 1, none⟩ = some (.int .i64 n) ∧ w'.cell? ⟨wr.heap.size, 2, none⟩ = some (.int .i64 m))
        (first | ((try dsimp only at hHeld ⊢); go_split_ands; refine ⟨?_, ?_, ?_, ?_⟩ <;> exact (hb5.cell (World.block_lt_of_cell? _ _ (by assumption))).trans (by assumption)) | exact ⟨lq, g0, g1, g2⟩ | go_keep)
        ((go_at_call 35; refine (hAf.out _).mono ?_; rintro e w5 ⟨rfl, hb5⟩))
      have hbw5 : Below wr.heap.size wr w5 := below_then (below_alloc wr (.cells #[.int .i64 op, .int .i64 n, .int .i64 m] 50)).drew hb5
      have f0 : w5.cell? ⟨wr.heap.size, 0, none⟩ = some (.int .i64 op) := (hb5.cell (p := ⟨wr.heap.size, 0, none⟩) (by simp)).trans g0
      have l5 : w5.cell? ⟨bl, ol + k, none⟩ = some (.int .i64 DD) := (hbw5.cell (p := ⟨bl, ol + k, none⟩) (World.block_lt_of_cell? _ _ l0)).trans l0
      have HBOX5 := Lib.hid (HBOX.out.keep hbw5 hwz)
      have hb35 : Below w3.heap.size w3 w5 := hbl.trans (hbw5.mono hz3)
      have HB35 := Lib.hid hb35
      have hnxt : Hid (∀ hn : k + 1 < ol0, w5.cell? ⟨b, off + (k + 1) * 3, none⟩ = some (.int .i64 (ops.getD (k + 1) OC.oz).op) ∧ w5.cell? ⟨bl, ol + (k + 1), none⟩ = some (.int .i64 (D.getD (k + 1) 0))) := by
        intro hn
        obtain ⟨_, b', o', ho', hat'⟩ := HC.out.ops.get hn
        have hbo : b' = b ∧ o' = off := by simp at ho'; exact ⟨ho'.1.symm, ho'.2.symm⟩
        obtain ⟨rfl, rfl⟩ := hbo
        refine ⟨?_, ?_⟩
        · exact (((below_then HL3.out hb35)).cell (p := ⟨b', o' + (k + 1) * 3, none⟩) (World.block_lt_of_cell? _ _ hat'.1)).trans hat'.1
        · exact (hb35.cell (p := ⟨bl, ol + (k + 1), none⟩) (World.block_lt_of_cell? _ _ (hlat _ hn))).trans (hlat _ hn)
      have hrc5 : Hid (∀ h0 : 0 < p, op = 24 → ∃ b' o', ra = some ⟨b', o', none⟩ ∧ p - 1 < pr ∧ w5.cell? ⟨b', o' + (p - 1), none⟩ = some (.int .i64 tp)) := by
        intro h0 h24
        have e1 := HT4.out h24 (p - 1) (by omega)
        rw [← HR2.out, hlast.out h0] at e1
        have hlp : p - 1 < pr := by
          rw [← HML.out]
          by_cases hc : p - 1 < M.length
          · exact hc
          · exfalso
            have e2 := roomG_len (ops.drop (k + 1)) (D.drop (k + 1)) T' (by simp [HDL.out, ← HO.out])
            rw [← HR2.out] at e2
            omega
        rcases HRA.out with h | ⟨b', o', h1, h2⟩
        · have := HML.out; rw [h] at this; simp at this; omega
        · refine ⟨b', o', h1, hlp, ?_⟩
          rw [← e1]
          exact (hb35.cell (p := ⟨b', o' + (p - 1), none⟩) (World.block_lt_of_cell? _ _ (h2 _ hlp))).trans (h2 _ hlp)
      obtain ⟨c0, c1, c2, c3, c4, c5⟩ := HBOX5.out
      clear g0 g1 g2 lq hb5 hbw5 o0 o1 o2 hlat l0 hbl hb35 hT5 T5 hat
      have hwz5 : w.heap.size < w5.heap.size := HBOX5.out.lt
      have hA0 : 0 ≤ A := n2
      have hA1 : A ≤ 4000 := n3
      by_cases h24 : op = 24
      · subst h24
        have hD0 : DD = 0 := hDe rfl
        subst hD0
        rw [if_pos rfl] at hT2
        have HLS : Hid (0 < T'.length → T'.getD (T'.length - 1) 0 = max (max 0 0) A) := fun h => by have := HT3.out h; rwa [if_pos rfl] at this
        have HLS : Hid (0 < p + 1 → T'.getD (p + 1 - 1) 0 = max (max 0 0) A) := by have h := HLS.out; rw [hT2, hTl] at h; exact h
        clear hlow hDe HT3
        by_cases hp0 : p = 0
        · subst hp0
          clear hrc5
          by_cases hn : k + 1 < ol0
          · obtain ⟨q0, q1⟩ := hnxt.out hn
            have hd2 := hnx.out hn
            have kn : (k : Int) + 1 < (ol0 : Int) := by omega
            rw [hd2] at q1
            clear hd2
            generalize (ops.getD (k + 1) OC.oz).op = op' at *
            by_cases hq : op' = 24
            · subst hq
              clear q1
              go_wp2
              go_roundw
              case rel => simp only [maxIf]; exact ⟨k + 1, 0 + 1, max (max 0 0) A, A, T', by omega, by omega, by go_num, by first | rfl | go_num, rfl, by omega, by omega, hA0, hA1, by rw [hT2, hTl]; first | done | rfl | omega, by omega, HLS.out, HR2.out, HD2.out, HP2.out, HBOX5.out, HB35.out⟩
              case measure => simp [intOf]; omega
            · rw [if_neg hq] at q1
              have hq2 : (op' != 24) = true := by simpa using hq
              clear hq
              go_wp2
              go_roundw
              case rel => simp only [maxIf]; exact ⟨k + 1, 0 + 1, max (max 0 0) A, A, T', by omega, by omega, by go_num, by first | rfl | go_num, rfl, by omega, by omega, hA0, hA1, by rw [hT2, hTl]; first | done | rfl | omega, by omega, HLS.out, HR2.out, HD2.out, HP2.out, HBOX5.out, HB35.out⟩
              case measure => simp [intOf]; omega
          · have kn : ¬ (k : Int) + 1 < (ol0 : Int) := by omega
            have kn3 : decide ((k : Int) + 1 < (ol0 : Int)) = false := by simpa using kn
            go_wp2
            go_roundw
            case rel => simp only [maxIf]; exact ⟨k + 1, 0 + 1, max (max 0 0) A, A, T', by omega, by omega, by go_num, by first | rfl | go_num, rfl, by omega, by omega, hA0, hA1, by rw [hT2, hTl]; first | done | rfl | omega, by omega, HLS.out, HR2.out, HD2.out, HP2.out, HBOX5.out, HB35.out⟩
            case measure => simp [intOf]; omega
        · obtain ⟨rb, ro, rfl, hpr, r0⟩ := hrc5.out (by omega) rfl
          clear hrc5
          have pp : (0 : Int) < (p : Int) := by omega
          have pq : (p : Int) - 1 = ((p - 1 : Nat) : Int) := by omega
          have pw : IntKind.i64.wrap ((p - 1 : Nat) : Int) = ((p - 1 : Nat) : Int) := IntWalk.i64_in _ ⟨by omega, by omega⟩
          have pr1 : ((p - 1 : Nat) : Int) < (pr : Int) := by omega
          by_cases hn : k + 1 < ol0
          · obtain ⟨q0, q1⟩ := hnxt.out hn
            have hd2 := hnx.out hn
            have kn : (k : Int) + 1 < (ol0 : Int) := by omega
            rw [hd2] at q1
            clear hd2
            generalize (ops.getD (k + 1) OC.oz).op = op' at *
            by_cases hq : op' = 24
            · subst hq
              clear q1
              go_wp2
              go_roundw
              case rel => simp only [maxIf]; exact ⟨k + 1, p + 1, max (max 0 0) A, A, T', by omega, by omega, by go_num, by first | rfl | go_num, rfl, by omega, by omega, hA0, hA1, by rw [hT2, hTl]; first | done | rfl | omega, by omega, HLS.out, HR2.out, HD2.out, HP2.out, HBOX5.out, HB35.out⟩
              case measure => simp [intOf]; omega
            · rw [if_neg hq] at q1
              have hq2 : (op' != 24) = true := by simpa using hq
              clear hq
              go_wp2
              go_roundw
              case rel => simp only [maxIf]; exact ⟨k + 1, p + 1, max (max 0 0) A, A, T', by omega, by omega, by go_num, by first | rfl | go_num, rfl, by omega, by omega, hA0, hA1, by rw [hT2, hTl]; first | done | rfl | omega, by omega, HLS.out, HR2.out, HD2.out, HP2.out, HBOX5.out, HB35.out⟩
              case measure => simp [intOf]; omega
          · have kn : ¬ (k : Int) + 1 < (ol0 : Int) := by omega
            have kn3 : decide ((k : Int) + 1 < (ol0 : Int)) = false := by simpa using kn
            go_wp2
            go_roundw
            case rel => simp only [maxIf]; exact ⟨k + 1, p + 1, max (max 0 0) A, A, T', by omega, by omega, by go_num, by first | rfl | go_num, rfl, by omega, by omega, hA0, hA1, by rw [hT2, hTl]; first | done | rfl | omega, by omega, HLS.out, HR2.out, HD2.out, HP2.out, HBOX5.out, HB35.out⟩
            case measure => simp [intOf]; omega
      · have e24 : (op == 24) = false := by simpa using h24
        have hlo := hlow h24
        rw [if_neg h24] at hT2
        have HLS : Hid (0 < p → T'.getD (p - 1) 0 = max (max tp DD) A) := by
          intro h0
          have e1 := HT3.out (by rw [hT2, hTl]; simpa using h0)
          rw [if_neg h24, hT2, hTl] at e1
          simp only [Nat.add_zero] at e1
          rw [hlast.out h0] at e1
          exact e1
        have dl1 : decide (DD < 2) = false := by simp; omega
        have dl2 : decide (4000 < DD) = false := by simp; omega
        clear hlow hDe HT3 hrc5 h24
        by_cases hn : k + 1 < ol0
        · obtain ⟨q0, q1⟩ := hnxt.out hn
          have hd2 := hnx.out hn
          have kn : (k : Int) + 1 < (ol0 : Int) := by omega
          rw [hd2] at q1
          clear hd2
          generalize (ops.getD (k + 1) OC.oz).op = op' at *
          by_cases hq : op' = 24
          · subst hq
            clear q1
            go_wp2
            go_roundw
            case rel => simp only [maxIf]; exact ⟨k + 1, p, max (max tp DD) A, A, T', by omega, by omega, by go_num, by first | rfl | go_num, rfl, by omega, by omega, hA0, hA1, by rw [hT2, hTl]; first | done | rfl | omega, by omega, HLS.out, HR2.out, HD2.out, HP2.out, HBOX5.out, HB35.out⟩
            case measure => simp [intOf]; omega
          · rw [if_neg hq] at q1
            have hq2 : (op' != 24) = true := by simpa using hq
            clear hq
            go_wp2
            go_roundw
            case rel => simp only [maxIf]; exact ⟨k + 1, p, max (max tp DD) A, A, T', by omega, by omega, by go_num, by first | rfl | go_num, rfl, by omega, by omega, hA0, hA1, by rw [hT2, hTl]; first | done | rfl | omega, by omega, HLS.out, HR2.out, HD2.out, HP2.out, HBOX5.out, HB35.out⟩
            case measure => simp [intOf]; omega
        · have kn : ¬ (k : Int) + 1 < (ol0 : Int) := by omega
          have kn3 : decide ((k : Int) + 1 < (ol0 : Int)) = false := by simpa using kn
          go_wp2
          go_roundw
          case rel => simp only [maxIf]; exact ⟨k + 1, p, max (max tp DD) A, A, T', by omega, by omega, by go_num, by first | rfl | go_num, rfl, by omega, by omega, hA0, hA1, by rw [hT2, hTl]; first | done | rfl | omega, by omega, HLS.out, HR2.out, HD2.out, HP2.out, HBOX5.out, HB35.out⟩
          case measure => simp [intOf]; omega
    · obtain rfl : ol0 = k := by omega
      have hTM : Hid (M = T) := by
        show _ = _
        rw [hroom.out, List.drop_eq_nil_of_le (by rw [← HO.out]; exact Nat.le_refl _)]
        simp [roomG]
      by_cases hp0 : p = 0
      · subst hp0
        clear hroom hdep hdeep hlast HN hTM
        go_wp2_with (go_at_call 14; refine (awake_c _ (HC.out.inst.keep (by repeat (first | assumption | exact HL4.out | exact below_then HL3.out hbl | exact Below.refl _ _ | exact below_alloc _ _ | refine below_back (by assumption) ?_ | refine below_then ?_ (below_alloc _ _) | refine Below.drew ?_ | refine below_drewN ?_ _ | refine below_then ?_ hb9 | refine below_then ?_ hb8 | refine below_then ?_ hb7 | refine below_then ?_ hb6 | refine below_then ?_ hb5 | refine below_then ?_ hb4 | refine below_then ?_ hb3 | refine below_then ?_ hb2 | refine below_then ?_ hb1 | exact HBL.out | exact HBW.out | exact HL.out)) (Nat.le_refl _))).mono ?_; rintro e w9 ⟨rfl, hb9⟩)
        go_ret
        exact ⟨rfl, below_then (below_then HL3.out hbl) hb9⟩
      · have hlp : p - 1 < pr := by
          have e1 := HML.out
          rw [hTM.out, hTl] at e1
          omega
        obtain ⟨rb, ro, rfl, r0⟩ : ∃ rb ro, ra = some ⟨rb, ro, none⟩ ∧ wr.cell? ⟨rb, ro + (p - 1), none⟩ = some (.int .i64 tp) := by
          rcases HRA.out with h | ⟨b', o', h1, h2⟩
          · have := HML.out; rw [h] at this; simp at this; omega
          · refine ⟨b', o', h1, ?_⟩
            have e1 := hlast.out (by omega)
            rw [← hTM.out] at e1
            rw [← e1]
            exact (hbl.cell (p := ⟨b', o' + (p - 1), none⟩) (World.block_lt_of_cell? _ _ (h2 _ hlp))).trans (h2 _ hlp)
        have pp : ((p : Int) == 0) = false := by simp; omega
        have pq : (p : Int) - 1 = ((p - 1 : Nat) : Int) := by omega
        have pw : IntKind.i64.wrap ((p - 1 : Nat) : Int) = ((p - 1 : Nat) : Int) := IntWalk.i64_in _ ⟨by omega, by omega⟩
        have pr1 : ((p - 1 : Nat) : Int) < (pr : Int) := by omega
        clear hroom hdep hdeep hlast HN hTM
        go_wp2_with (go_at_call 14; refine (awake_c _ (HC.out.inst.keep (by repeat (first | assumption | exact HL4.out | exact below_then HL3.out hbl | exact Below.refl _ _ | exact below_alloc _ _ | refine below_back (by assumption) ?_ | refine below_then ?_ (below_alloc _ _) | refine Below.drew ?_ | refine below_drewN ?_ _ | refine below_then ?_ hb9 | refine below_then ?_ hb8 | refine below_then ?_ hb7 | refine below_then ?_ hb6 | refine below_then ?_ hb5 | refine below_then ?_ hb4 | refine below_then ?_ hb3 | refine below_then ?_ hb2 | refine below_then ?_ hb1 | exact HBL.out | exact HBW.out | exact HL.out)) (Nat.le_refl _))).mono ?_; rintro e w9 ⟨rfl, hb9⟩)
        go_ret
        exact ⟨rfl, below_then (below_then HL3.out hbl) hb9⟩

theorem contract (H : Type) (enc : TypeId × Value → H) (W : World) (base : Nat) (args : Array Value) (ds gs : List (DataW H)) (before : List MemPlace)
    (hval : ∀ (j : Nat) t v, Tryd.f11.params[j]? = some t → args[j]? = some v → Value.okWide Tryd.prog W .any base t v)
    (hW : DataW.Whole enc Tryd.prog Tryd.f11.params.toList Rows.ocodeDownSpec.vars false W args.toList ds gs before)
    (hsz : (DataW.weightsEach Tryd.prog (Tryd.f11.params.toList ++ Rows.ocodeDownSpec.plain.varTypes Tryd.prog) (ds ++ gs)).all (· ≤ reachBytes) = true) (hL : laidMetH Tryd.prog Rows.ocodeDownRow.laid W) :
    Calls Tryd.prog 11 args W fun e W' => ∃ v, e = .returned v ∧ Rows.ocodeDownSpec.post enc Tryd.prog Tryd.f11 false true false false W args v W' := by
  have hW' := hW
  obtain ⟨p, q, hA0, hV, rfl, hfz, hnd⟩ := hW
  have hA : DataW.TrodAll enc Tryd.prog W 0 (fun _ => true) true Tryd.f11.params.toList args.toList ds p := hA0
  rw [Tryd.params11] at hA hval hsz
  obtain ⟨v0, vs0, d0, ds0, p0, q0, hargs, rfl, rfl, h0, r0⟩ := trodAll_cons hA
  obtain ⟨rfl, rfl, rfl⟩ := trodAll_nil r0
  obtain rfl : args = #[v0] := by cases args; simp_all
  obtain ⟨rfl, rfl⟩ := trodVars_none hV
  have k0 := h0
  have lt0 : ∀ x ∈ p0, x.block < W.heap.size := by obtain ⟨m, hm⟩ := k0; exact DataW.trod_lt m _ _ _ hm
  obtain ⟨c0, da0, oa0, ga0, dl0, dc0, ol0, oc0, gl0, gc0, rfl, w0, z0⟩ := open_code (hval 0 26 v0 rfl rfl) h0 (fun n hn => by have := List.all_eq_true.1 hsz n (DataW.weights_mem_each (j := 0) rfl rfl n hn); simpa using this)
  clear hA0
  have hi : InstAt W := instAt_of hL
  refine (walk c0 da0 oa0 ga0 dl0 dc0 ol0 oc0 gl0 gc0 W w0 z0 hi).mono fun e W' ⟨he, bel⟩ => ?_
  subst he
  exact ⟨_, rfl, _, _, _, [], _, [], hW', trodAll_mk1 (shut_bool Tryd.underlying4 _), (trodAll_cons_mk (Below.trod laidOut (by kernel_rfl) (of_decide_eq_true (by kernel_rfl)) k0 bel lt0) trodAll_mk0), rfl, bel.frame _, fun h => by cases h⟩

theorem laid_met (os : Os) : laidMet Tryd.prog Rows.ocodeDownRow.laid ((laidWorld os).forCall (fun _ _ => 0) ⟨#[], #[.agg #[.string ⟨#[]⟩, .slice none 0 0, .slice none 0 0, .slice none 0 0, .int .i64 0, .int .i64 0]], []⟩).memory :=
  laidMet_of_run' 8 (by kernel_rfl) (by kernel_rfl)
set_option maxRecDepth 100000 in
theorem lifted (os : Os) (started : os.Started) (H : Type) (enc : TypeId × Value → H) (F : Stop.Interp) :
    ReturnsInHanded {} Tryd.checked os 11 .any ((OpenSpec.ofChange Rows.ocodeDownSpec).preRow enc Tryd.prog Tryd.f11 Rows.ocodeDownRow.domain false Rows.ocodeDownRow.laid) (((OpenSpec.ofChange Rows.ocodeDownSpec).at F).post enc Tryd.prog Tryd.f11 false true false false) := by
  refine returnsInHanded_of_row (C := Tryd.checked) (s := OpenSpec.ofChange Rows.ocodeDownSpec) own started (by kernel_rfl) Tryd.func11
    (witness_row_at (enc := enc) (C := Tryd.checked) false (laidWorld os) #[.agg #[.string ⟨#[]⟩, .slice none 0 0, .slice none 0 0, .slice none 0 0, .int .i64 0, .int .i64 0]] rfl (by kernel_rfl) (by kernel_rfl) (by kernel_rfl)
      (OpenSpec.preRow_of_cond 8 (x := ([.agg [.lit (.string []), .nil, .nil, .nil, .lit (.int .i64 0), .lit (.int .i64 0)]], [], [])) (by kernel_rfl) (by kernel_rfl) (fun k hk => by cases hk) (by kernel_rfl) (laid_met os))) ?_
  intro W base args ds gs before hval hW _ _ hsz hL _ _
  exact contract H enc W base args ds gs before hval hW hsz hL
theorem said : Rows.OcodeDownSaid :=
  OpenClaim.holds_of_cond 11 Tryd.f11 rfl rfl rfl rfl rfl rfl rfl ⟨rfl, rfl, rfl, rfl, rfl⟩ rfl rfl rfl rfl rfl (by kernel_rfl) Tryd.func11 (by kernel_rfl)
    (of_decide_eq_true (by kernel_rfl)) (by unfold Func.isWrapper; first | (rw [if_pos (by decide +kernel)]; kernel_rfl) | (rw [if_neg (by decide +kernel)]; exact ⟨rfl, rfl⟩))
    (fun os started H enc _ F => by rw [OpenClaim.pre_eq_preRow]; exact lifted os started H enc F)
theorem plain (f : FuncId) (fn : Func) (hf : Tryd.pinned.checked.prog.funcNamed "bluebell/bluebelllaw06.OcodeDown" = some f) (hfn : Tryd.pinned.checked.prog.funcs[f]? = some fn) :
    false = Tryd.pinned.checked.prog.looks [] ∧ ∀ (j : Nat) t, fn.params[j]? = some t → Tryd.pinned.checked.prog.wantsStandIn t = false := by
  obtain rfl : f = 11 := Option.some.inj ((show Tryd.prog.funcNamed "bluebell/bluebelllaw06.OcodeDown" = some 11 by kernel_rfl).symm.trans hf) |>.symm
  obtain rfl : fn = Tryd.f11 := (Option.some.inj (Tryd.func11.symm.trans hfn)).symm
  refine ⟨by kernel_rfl, fun j t ht => ?_⟩
  rw [Tryd.params11] at ht
  have hm := Array.mem_of_getElem? ht
  simp at hm
  subst hm
  exact (show Tryd.prog.wantsStandIn 26 = false by kernel_rfl)
theorem card : Rows.OcodeDownCardSaid :=
  Claim7.holds_tied_plain_at .later [] _ _ _ _ said (fun _ h => by cases h) (by kernel_rfl) (fun _ h => by cases h) ocodeDown_row_tie rfl ⟨rfl, rfl⟩ (by kernel_rfl) rfl plain (by kernel_rfl)
end Go.Proofs.YthlakfgpmggceaaDoor.ocodeDown
namespace Go.Proofs.YthlakfgpmggceaaDoor
theorem ocodeDown_holds : Rows.OcodeDownCardSaid := ocodeDown.card
end Go.Proofs.YthlakfgpmggceaaDoor
