/- The card of the statement OcodeSame holds: the law returns true for all its arguments, and they read behind the call as before; the table of instructions that the row lists is tied to the program's text. -/
import Derived.Test.YthlakfgpmggceaaDoorOcLd
import Derived.Test.YthlakfgpmggceaaDoorOcAw
import Derived.Test.YthlakfgpmggceaaDoorOcLw
import Derived.Test.YthlakfgpmggceaaDoorOcPsm
import Derived.HandedShaped
namespace Go.Proofs.YthlakfgpmggceaaDoor.ocodeSame
open Go.ChangeShapes Go.WideShapes Go.ChangeAt Go.RowKit Go.Joins 
open Go.ChangeMaps (open_string shut_string)
set_option linter.unusedVariables false
set_option linter.unusedSimpArgs false
set_option maxRecDepth 100000
set_option maxRecDepth 100000 in
set_option maxHeartbeats 8000000 in
theorem walk (c0 : OC.Code) (da0 oa0 ga0 : Option Addr) (dl0 dc0 ol0 oc0 gl0 gc0 : Nat) (c1 : OC.Code) (da1 oa1 ga1 : Option Addr) (dl1 dc1 ol1 oc1 gl1 gc1 : Nat) (w : World) (w0 : CodeIn w c0 da0 oa0 ga0 dl0 dc0 ol0 oc0 gl0 gc0) (z0 : OkC c0) (w1 : CodeIn w c1 da1 oa1 ga1 dl1 dc1 ol1 oc1 gl1 gc1) (z1 : OkC c1) (hi : InstAt w) :
    Calls Tryd.prog 8 #[codeV c0 da0 oa0 ga0 dl0 dc0 ol0 oc0 gl0 gc0, codeV c1 da1 oa1 ga1 dl1 dc1 ol1 oc1 gl1 gc1] w fun e w' => e = .returned (.bool true) ∧ Below w.heap.size w w' := by
  have HI := Lib.hid hi
  clear hi
  have HC := Lib.hid w0
  have HD := Lib.hid w1
  have htx : ∀ d ∈ c0.data, d.text.length ≤ 140737488351232 := fun d hd => (z0.data d hd).1
  have hty : ∀ d ∈ c1.data, d.text.length ≤ 140737488351232 := fun d hd => (z1.data d hd).1
  have HV : Hid (∀ W, CodeIn W c0 da0 oa0 ga0 dl0 dc0 ol0 oc0 gl0 gc0 → Calls Tryd.prog 13 #[codeV c0 da0 oa0 ga0 dl0 dc0 ol0 oc0 gl0 gc0] W fun e w' => e = .returned (.bool (heavyC c0 40100)) ∧ Below W.heap.size W w') := fun W hW => heavy_c c0 da0 oa0 ga0 dl0 dc0 ol0 oc0 gl0 gc0 W hW htx
  have HW : Hid (∀ W, CodeIn W c1 da1 oa1 ga1 dl1 dc1 ol1 oc1 gl1 gc1 → Calls Tryd.prog 13 #[codeV c1 da1 oa1 ga1 dl1 dc1 ol1 oc1 gl1 gc1] W fun e w' => e = .returned (.bool (heavyC c1 40100)) ∧ Below W.heap.size W w') := fun W hW => heavy_c c1 da1 oa1 ga1 dl1 dc1 ol1 oc1 gl1 gc1 W hW hty
  by_cases hh : heavyC c0 40100 = true
  · rw [hh] at HV
    obtain ⟨name, data, ops, globals, procs, labels⟩ := c0
    obtain ⟨name', data', ops', globals', procs', labels'⟩ := c1
    clear w0 z0 w1 z1 hh htx hty HW
    have tka : True := trivial
    go_enter Tryd.func8, Tryd.ntmps8
    go_wp2_with (first
      | (go_at_call 13; have _t := tka; clear _t tka; have tkb : True := trivial; refine (HV.out _ (HC.out.keep (below_then (below_alloc _ _) (below_alloc _ _)))).mono ?_; rintro e w1 ⟨rfl, hb1⟩; have HL1 := Lib.hid (below_then (below_then (below_alloc _ _) (below_alloc _ _)) hb1); obtain ⟨⟨c0, c1, c2, c3, c4, c5⟩, ⟨x0, x1, x2, x3, x4, x5⟩, hbb⟩ := (Two.new w ⟨name, data, ops, globals, procs, labels⟩ da0 oa0 ga0 dl0 dc0 ol0 oc0 gl0 gc0 ⟨name', data', ops', globals', procs', labels'⟩ da1 oa1 ga1 dl1 dc1 ol1 oc1 gl1 gc1 26).keep hb1; clear hbb)
      | (go_at_call 14; refine (awake_c _ (HI.out.keep (by repeat (first | assumption | exact HL4.out | exact HL2.out | exact HL1.out | exact below_then HL3.out hbl | exact Below.refl _ _ | exact below_alloc _ _ | refine below_back (by assumption) ?_ | refine below_then ?_ (below_alloc _ _) | refine Below.drew ?_ | refine below_drewN ?_ _ | refine below_then ?_ hb9 | refine below_then ?_ hb8 | refine below_then ?_ hb7 | refine below_then ?_ hb6 | refine below_then ?_ hb5 | refine below_then ?_ hb4 | refine below_then ?_ hb3 | refine below_then ?_ hb2 | refine below_then ?_ hb1 | exact HBL.out | exact HBW.out | exact HL.out)) (Nat.le_refl _))).mono ?_; rintro e w9 ⟨rfl, hb9⟩))
    go_ret
    exact ⟨rfl, below_then HL1.out hb9⟩
  rw [Bool.not_eq_true] at hh
  rw [hh] at HV
  by_cases hg : heavyC c1 40100 = true
  · rw [hg] at HW
    obtain ⟨name, data, ops, globals, procs, labels⟩ := c0
    obtain ⟨name', data', ops', globals', procs', labels'⟩ := c1
    clear w0 z0 w1 z1 hh hg htx hty
    have tka : True := trivial
    go_enter Tryd.func8, Tryd.ntmps8
    go_wp2_with (first
      | (go_at_call 13; have _t := tka; clear _t tka; have tkb : True := trivial; refine (HV.out _ (HC.out.keep (below_then (below_alloc _ _) (below_alloc _ _)))).mono ?_; rintro e w1 ⟨rfl, hb1⟩; have HL1 := Lib.hid (below_then (below_then (below_alloc _ _) (below_alloc _ _)) hb1); obtain ⟨⟨c0, c1, c2, c3, c4, c5⟩, ⟨x0, x1, x2, x3, x4, x5⟩, hbb⟩ := (Two.new w ⟨name, data, ops, globals, procs, labels⟩ da0 oa0 ga0 dl0 dc0 ol0 oc0 gl0 gc0 ⟨name', data', ops', globals', procs', labels'⟩ da1 oa1 ga1 dl1 dc1 ol1 oc1 gl1 gc1 26).keep hb1; clear hbb)
      | (go_at_call 13; have _t := tkb; clear _t tkb; have tkc : True := trivial; refine (HW.out _ (HD.out.keep HL1.out)).mono ?_; rintro e w2 ⟨rfl, hb2⟩; have HL2 := Lib.hid (below_then HL1.out hb2); obtain ⟨⟨c0, c1, c2, c3, c4, c5⟩, ⟨x0, x1, x2, x3, x4, x5⟩, hbb⟩ := ((Two.new w ⟨name, data, ops, globals, procs, labels⟩ da0 oa0 ga0 dl0 dc0 ol0 oc0 gl0 gc0 ⟨name', data', ops', globals', procs', labels'⟩ da1 oa1 ga1 dl1 dc1 ol1 oc1 gl1 gc1 26).keep hb1).keep hb2; clear hbb)
      | (go_at_call 14; refine (awake_c _ (HI.out.keep (by repeat (first | assumption | exact HL4.out | exact HL2.out | exact HL1.out | exact below_then HL3.out hbl | exact Below.refl _ _ | exact below_alloc _ _ | refine below_back (by assumption) ?_ | refine below_then ?_ (below_alloc _ _) | refine Below.drew ?_ | refine below_drewN ?_ _ | refine below_then ?_ hb9 | refine below_then ?_ hb8 | refine below_then ?_ hb7 | refine below_then ?_ hb6 | refine below_then ?_ hb5 | refine below_then ?_ hb4 | refine below_then ?_ hb3 | refine below_then ?_ hb2 | refine below_then ?_ hb1 | exact HBL.out | exact HBW.out | exact HL.out)) (Nat.le_refl _))).mono ?_; rintro e w9 ⟨rfl, hb9⟩))
    go_ret
    exact ⟨rfl, below_then HL2.out hb9⟩
  rw [Bool.not_eq_true] at hg
  rw [hg] at HW
  obtain ⟨T, hT⟩ : ∃ T : Bool, T = true ↔ c0 = c1 := by
    by_cases h : c0 = c1
    · exact ⟨true, by simp [h]⟩
    · exact ⟨false, by simp [h]⟩
  have HE : Hid (∀ W, CodeIn W c0 da0 oa0 ga0 dl0 dc0 ol0 oc0 gl0 gc0 → CodeIn W c1 da1 oa1 ga1 dl1 dc1 ol1 oc1 gl1 gc1 → Calls Tryd.prog 29 #[codeV c0 da0 oa0 ga0 dl0 dc0 ol0 oc0 gl0 gc0, codeV c1 da1 oa1 ga1 dl1 dc1 ol1 oc1 gl1 gc1] W fun e w' => e = .returned (.bool T) ∧ Below W.heap.size W w') := fun W hW hV => (EqCode_c c0 c1 da0 oa0 ga0 da1 oa1 ga1 dl0 dc0 ol0 oc0 gl0 gc0 dl1 dc1 ol1 oc1 gl1 gc1 W hW hV).mono fun e w' h => by
    obtain ⟨⟨t, rfl, ht⟩, hb⟩ := h
    have : t = T := by rw [Bool.eq_iff_iff, ht, hT]
    rw [this]; exact ⟨rfl, hb⟩
  have HM : Hid (∀ W u v, CodeIn W c0 da0 oa0 ga0 dl0 dc0 ol0 oc0 gl0 gc0 → CodeIn W c1 da1 oa1 ga1 dl1 dc1 ol1 oc1 gl1 gc1 → (u = codeV c0 da0 oa0 ga0 dl0 dc0 ol0 oc0 gl0 gc0 ∧ v = codeV c1 da1 oa1 ga1 dl1 dc1 ol1 oc1 gl1 gc1) ∨ (u = codeV c1 da1 oa1 ga1 dl1 dc1 ol1 oc1 gl1 gc1 ∧ v = codeV c0 da0 oa0 ga0 dl0 dc0 ol0 oc0 gl0 gc0) → Calls Tryd.prog 17 #[u, v] W fun e w' => e = .returned (.bool T) ∧ Below W.heap.size W w') := by
    intro W u v hW hV huv
    rcases huv with ⟨rfl, rfl⟩ | ⟨rfl, rfl⟩
    · refine (SameC_c c0 c1 da0 oa0 ga0 da1 oa1 ga1 dl0 dc0 ol0 oc0 gl0 gc0 dl1 dc1 ol1 oc1 gl1 gc1 W hW hV).mono fun e w' h => ?_
      obtain ⟨⟨t, rfl, ht⟩, hb⟩ := h
      have : t = T := by rw [Bool.eq_iff_iff, ht, hT]
      rw [this]; exact ⟨rfl, hb⟩
    · refine (SameC_c c1 c0 da1 oa1 ga1 da0 oa0 ga0 dl1 dc1 ol1 oc1 gl1 gc1 dl0 dc0 ol0 oc0 gl0 gc0 W hV hW).mono fun e w' h => ?_
      obtain ⟨⟨t, rfl, ht⟩, hb⟩ := h
      have : t = T := by rw [Bool.eq_iff_iff, ht, hT]; exact eq_comm
      rw [this]; exact ⟨rfl, hb⟩
  obtain ⟨name, data, ops, globals, procs, labels⟩ := c0
  obtain ⟨name', data', ops', globals', procs', labels'⟩ := c1
  clear w0 z0 w1 z1 hh hg htx hty hT
  have tka : True := trivial
  go_enter Tryd.func8, Tryd.ntmps8
  go_wp2_with (first
    | (go_at_call 13; have _t := tka; clear _t tka; have tkb : True := trivial; refine (HV.out _ (HC.out.keep (below_then (below_alloc _ _) (below_alloc _ _)))).mono ?_; rintro e w1 ⟨rfl, hb1⟩; have HL1 := Lib.hid (below_then (below_then (below_alloc _ _) (below_alloc _ _)) hb1); obtain ⟨⟨c0, c1, c2, c3, c4, c5⟩, ⟨x0, x1, x2, x3, x4, x5⟩, hbb⟩ := (Two.new w ⟨name, data, ops, globals, procs, labels⟩ da0 oa0 ga0 dl0 dc0 ol0 oc0 gl0 gc0 ⟨name', data', ops', globals', procs', labels'⟩ da1 oa1 ga1 dl1 dc1 ol1 oc1 gl1 gc1 26).keep hb1; clear hbb)
    | (go_at_call 13; have _t := tkb; clear _t tkb; have tkc : True := trivial; refine (HW.out _ (HD.out.keep HL1.out)).mono ?_; rintro e w2 ⟨rfl, hb2⟩; have HL2 := Lib.hid (below_then HL1.out hb2); obtain ⟨⟨c0, c1, c2, c3, c4, c5⟩, ⟨x0, x1, x2, x3, x4, x5⟩, hbb⟩ := ((Two.new w ⟨name, data, ops, globals, procs, labels⟩ da0 oa0 ga0 dl0 dc0 ol0 oc0 gl0 gc0 ⟨name', data', ops', globals', procs', labels'⟩ da1 oa1 ga1 dl1 dc1 ol1 oc1 gl1 gc1 26).keep hb1).keep hb2; clear hbb))
  go_region_held3 (fun w' => w'.cell? ⟨w.heap.size, 0, none⟩ = some (.string ⟨name.toArray⟩) ∧ w'.cell? ⟨w.heap.size, 1, none⟩ = some (.slice da0 dl0 dc0) ∧ w'.cell? ⟨w.heap.size, 2, none⟩ = some (.slice oa0 ol0 oc0) ∧ w'.cell? ⟨w.heap.size, 3, none⟩ = some (.slice ga0 gl0 gc0) ∧ w'.cell? ⟨w.heap.size, 4, none⟩ = some (.int .i64 procs) ∧ w'.cell? ⟨w.heap.size, 5, none⟩ = some (.int .i64 labels) ∧ w'.cell? ⟨w.heap.size + 1, 0, none⟩ = some (.string ⟨name'.toArray⟩) ∧ w'.cell? ⟨w.heap.size + 1, 1, none⟩ = some (.slice da1 dl1 dc1) ∧ w'.cell? ⟨w.heap.size + 1, 2, none⟩ = some (.slice oa1 ol1 oc1) ∧ w'.cell? ⟨w.heap.size + 1, 3, none⟩ = some (.slice ga1 gl1 gc1) ∧ w'.cell? ⟨w.heap.size + 1, 4, none⟩ = some (.int .i64 procs') ∧ w'.cell? ⟨w.heap.size + 1, 5, none⟩ = some (.int .i64 labels'))
    (first | ((try dsimp only at hHeld ⊢); go_split_ands; refine ⟨?_, ?_, ?_, ?_, ?_, ?_, ?_, ?_, ?_, ?_, ?_, ?_⟩ <;> exact (hbA.cell (World.block_lt_of_cell? _ _ (by assumption))).trans (by assumption)) | ((try dsimp only at hHeld ⊢); go_split_ands; refine ⟨?_, ?_, ?_, ?_, ?_, ?_, ?_, ?_, ?_, ?_, ?_, ?_⟩ <;> exact (hbB.cell (World.block_lt_of_cell? _ _ (by assumption))).trans (by assumption)) | ((try dsimp only at hHeld ⊢); go_split_ands; refine ⟨?_, ?_, ?_, ?_, ?_, ?_, ?_, ?_, ?_, ?_, ?_, ?_⟩ <;> exact (hbD.cell (World.block_lt_of_cell? _ _ (by assumption))).trans (by assumption)) | exact ⟨c0, c1, c2, c3, c4, c5, x0, x1, x2, x3, x4, x5⟩ | go_keep)
    (first
      | (go_at_call 17; refine (HM.out _ _ _ (HC.out.keep (by repeat (first | exact Below.refl _ _ | exact below_alloc _ _ | refine below_back (by assumption) ?_ | refine below_then ?_ (below_alloc _ _) | refine Below.drew ?_ | refine below_drewN ?_ _))) (HD.out.keep (by repeat (first | exact Below.refl _ _ | exact below_alloc _ _ | refine below_back (by assumption) ?_ | refine below_then ?_ (below_alloc _ _) | refine Below.drew ?_ | refine below_drewN ?_ _))) (by first | exact .inl ⟨rfl, rfl⟩ | exact .inr ⟨rfl, rfl⟩)).mono ?_; rintro e wA ⟨rfl, hbA⟩)
      | (go_at_call 29; refine (HE.out _ (HC.out.keep (by repeat (first | exact Below.refl _ _ | exact below_alloc _ _ | refine below_back (by assumption) ?_ | refine below_then ?_ (below_alloc _ _) | refine Below.drew ?_ | refine below_drewN ?_ _))) (HD.out.keep (by repeat (first | exact Below.refl _ _ | exact below_alloc _ _ | refine below_back (by assumption) ?_ | refine below_then ?_ (below_alloc _ _) | refine Below.drew ?_ | refine below_drewN ?_ _)))).mono ?_; rintro e wB ⟨rfl, hbB⟩)
      | (go_at_call 14; refine (awake_c _ (HI.out.keep (by repeat (first | assumption | exact HL4.out | exact HL2.out | exact HL1.out | exact below_then HL3.out hbl | exact Below.refl _ _ | exact below_alloc _ _ | refine below_back (by assumption) ?_ | refine below_then ?_ (below_alloc _ _) | refine Below.drew ?_ | refine below_drewN ?_ _ | refine below_then ?_ hb9 | refine below_then ?_ hb8 | refine below_then ?_ hb7 | refine below_then ?_ hb6 | refine below_then ?_ hb5 | refine below_then ?_ hb4 | refine below_then ?_ hb3 | refine below_then ?_ hb2 | refine below_then ?_ hb1 | exact HBL.out | exact HBW.out | exact HL.out)) (Nat.le_refl _))).mono ?_; rintro e wD ⟨rfl, hbD⟩))
  all_goals go_wp2
  all_goals go_ret
  all_goals exact ⟨rfl, (by repeat (first | exact Below.refl _ _ | exact below_alloc _ _ | refine below_back (by assumption) ?_ | refine below_then ?_ (below_alloc _ _) | refine Below.drew ?_ | refine below_drewN ?_ _))⟩

theorem contract (H : Type) (enc : TypeId × Value → H) (W : World) (base : Nat) (args : Array Value) (ds gs : List (DataW H)) (before : List MemPlace)
    (hval : ∀ (j : Nat) t v, Tryd.f8.params[j]? = some t → args[j]? = some v → Value.okWide Tryd.prog W .any base t v)
    (hW : DataW.Whole enc Tryd.prog Tryd.f8.params.toList Rows.ocodeSameSpec.vars false W args.toList ds gs before)
    (hsz : (DataW.weightsEach Tryd.prog (Tryd.f8.params.toList ++ Rows.ocodeSameSpec.plain.varTypes Tryd.prog) (ds ++ gs)).all (· ≤ reachBytes) = true) (hL : laidMetH Tryd.prog Rows.ocodeSameRow.laid W) :
    Calls Tryd.prog 8 args W fun e W' => ∃ v, e = .returned v ∧ Rows.ocodeSameSpec.post enc Tryd.prog Tryd.f8 false true false false W args v W' := by
  have hW' := hW
  obtain ⟨p, q, hA0, hV, rfl, hfz, hnd⟩ := hW
  have hA : DataW.TrodAll enc Tryd.prog W 0 (fun _ => true) true Tryd.f8.params.toList args.toList ds p := hA0
  rw [Tryd.params8] at hA hval hsz
  obtain ⟨v0, vs0, d0, ds0, p0, q0, hargs, rfl, rfl, h0, r0⟩ := trodAll_cons hA
  obtain ⟨v1, vs1, d1, ds1, p1, q1, rfl, rfl, rfl, h1, r1⟩ := trodAll_cons r0
  obtain ⟨rfl, rfl, rfl⟩ := trodAll_nil r1
  obtain rfl : args = #[v0, v1] := by cases args; simp_all
  obtain ⟨rfl, rfl⟩ := trodVars_none hV
  have k0 := h0
  have lt0 : ∀ x ∈ p0, x.block < W.heap.size := by obtain ⟨m, hm⟩ := k0; exact DataW.trod_lt m _ _ _ hm
  have k1 := h1
  have lt1 : ∀ x ∈ p1, x.block < W.heap.size := by obtain ⟨m, hm⟩ := k1; exact DataW.trod_lt m _ _ _ hm
  obtain ⟨c0, da0, oa0, ga0, dl0, dc0, ol0, oc0, gl0, gc0, rfl, w0, z0⟩ := open_code (hval 0 26 v0 rfl rfl) h0 (fun n hn => by have := List.all_eq_true.1 hsz n (DataW.weights_mem_each (j := 0) rfl rfl n hn); simpa using this)
  obtain ⟨c1, da1, oa1, ga1, dl1, dc1, ol1, oc1, gl1, gc1, rfl, w1, z1⟩ := open_code (hval 1 26 v1 rfl rfl) h1 (fun n hn => by have := List.all_eq_true.1 hsz n (DataW.weights_mem_each (j := 1) rfl rfl n hn); simpa using this)
  clear hA0
  have hi : InstAt W := instAt_of hL
  refine (walk c0 da0 oa0 ga0 dl0 dc0 ol0 oc0 gl0 gc0 c1 da1 oa1 ga1 dl1 dc1 ol1 oc1 gl1 gc1 W w0 z0 w1 z1 hi).mono fun e W' ⟨he, bel⟩ => ?_
  subst he
  exact ⟨_, rfl, _, _, _, [], _, [], hW', trodAll_mk1 (shut_bool Tryd.underlying4 _), (trodAll_cons_mk (Below.trod laidOut (by kernel_rfl) (of_decide_eq_true (by kernel_rfl)) k0 bel lt0) (trodAll_cons_mk (Below.trod laidOut (by kernel_rfl) (of_decide_eq_true (by kernel_rfl)) k1 bel lt1) trodAll_mk0)), rfl, bel.frame _, fun h => by cases h⟩

theorem laid_met (os : Os) : laidMet Tryd.prog Rows.ocodeSameRow.laid ((laidWorld os).forCall (fun _ _ => 0) ⟨#[], #[.agg #[.string ⟨#[]⟩, .slice none 0 0, .slice none 0 0, .slice none 0 0, .int .i64 0, .int .i64 0], .agg #[.string ⟨#[]⟩, .slice none 0 0, .slice none 0 0, .slice none 0 0, .int .i64 0, .int .i64 0]], []⟩).memory :=
  laidMet_of_run' 8 (by kernel_rfl) (by kernel_rfl)
set_option maxRecDepth 100000 in
theorem lifted (os : Os) (started : os.Started) (H : Type) (enc : TypeId × Value → H) (F : Stop.Interp) :
    ReturnsInHanded {} Tryd.checked os 8 .any ((OpenSpec.ofChange Rows.ocodeSameSpec).preRow enc Tryd.prog Tryd.f8 Rows.ocodeSameRow.domain false Rows.ocodeSameRow.laid) (((OpenSpec.ofChange Rows.ocodeSameSpec).at F).post enc Tryd.prog Tryd.f8 false true false false) := by
  refine returnsInHanded_of_row (C := Tryd.checked) (s := OpenSpec.ofChange Rows.ocodeSameSpec) own started (by kernel_rfl) Tryd.func8
    (witness_row_at (enc := enc) (C := Tryd.checked) false (laidWorld os) #[.agg #[.string ⟨#[]⟩, .slice none 0 0, .slice none 0 0, .slice none 0 0, .int .i64 0, .int .i64 0], .agg #[.string ⟨#[]⟩, .slice none 0 0, .slice none 0 0, .slice none 0 0, .int .i64 0, .int .i64 0]] rfl (by kernel_rfl) (by kernel_rfl) (by kernel_rfl)
      (OpenSpec.preRow_of_cond 8 (x := ([.agg [.lit (.string []), .nil, .nil, .nil, .lit (.int .i64 0), .lit (.int .i64 0)], .agg [.lit (.string []), .nil, .nil, .nil, .lit (.int .i64 0), .lit (.int .i64 0)]], [], [])) (by kernel_rfl) (by kernel_rfl) (fun k hk => by cases hk) (by kernel_rfl) (laid_met os))) ?_
  intro W base args ds gs before hval hW _ _ hsz hL _ _
  exact contract H enc W base args ds gs before hval hW hsz hL
theorem said : Rows.OcodeSameSaid :=
  OpenClaim.holds_of_cond 8 Tryd.f8 rfl rfl rfl rfl rfl rfl rfl ⟨rfl, rfl, rfl, rfl, rfl⟩ rfl rfl rfl rfl rfl (by kernel_rfl) Tryd.func8 (by kernel_rfl)
    (of_decide_eq_true (by kernel_rfl)) (by unfold Func.isWrapper; first | (rw [if_pos (by decide +kernel)]; kernel_rfl) | (rw [if_neg (by decide +kernel)]; exact ⟨rfl, rfl⟩))
    (fun os started H enc _ F => by rw [OpenClaim.pre_eq_preRow]; exact lifted os started H enc F)
theorem plain (f : FuncId) (fn : Func) (hf : Tryd.pinned.checked.prog.funcNamed "bluebell/bluebelllaw06.OcodeSame" = some f) (hfn : Tryd.pinned.checked.prog.funcs[f]? = some fn) :
    false = Tryd.pinned.checked.prog.looks [] ∧ ∀ (j : Nat) t, fn.params[j]? = some t → Tryd.pinned.checked.prog.wantsStandIn t = false := by
  obtain rfl : f = 8 := Option.some.inj ((show Tryd.prog.funcNamed "bluebell/bluebelllaw06.OcodeSame" = some 8 by kernel_rfl).symm.trans hf) |>.symm
  obtain rfl : fn = Tryd.f8 := (Option.some.inj (Tryd.func8.symm.trans hfn)).symm
  refine ⟨by kernel_rfl, fun j t ht => ?_⟩
  rw [Tryd.params8] at ht
  have hm := Array.mem_of_getElem? ht
  simp at hm
  subst hm
  exact (show Tryd.prog.wantsStandIn 26 = false by kernel_rfl)
theorem card : Rows.OcodeSameCardSaid :=
  Claim7.holds_tied_plain_at .later [] _ _ _ _ said (fun _ h => by cases h) (by kernel_rfl) (fun _ h => by cases h) ocodeSame_row_tie rfl ⟨rfl, rfl⟩ (by kernel_rfl) rfl plain (by kernel_rfl)
end Go.Proofs.YthlakfgpmggceaaDoor.ocodeSame
namespace Go.Proofs.YthlakfgpmggceaaDoor
theorem ocodeSame_holds : Rows.OcodeSameCardSaid := ocodeSame.card
end Go.Proofs.YthlakfgpmggceaaDoor
