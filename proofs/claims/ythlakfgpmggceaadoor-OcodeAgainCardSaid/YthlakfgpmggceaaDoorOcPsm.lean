/- Comparing code whole: the program's way. -/
import Derived.Test.YthlakfgpmggceaaDoorOcPs
namespace Go.Proofs.YthlakfgpmggceaaDoor
open Go.RowKit
set_option linter.unusedVariables false
set_option linter.unusedSimpArgs false
set_option maxRecDepth 100000 in
set_option maxHeartbeats 8000000 in
theorem SameP_c (x y : OC.Code) (da oa ga da' oa' ga' : Option Addr) (dl dc ol oc gl gc dl' dc' ol' oc' gl' gc' : Nat) (w : World) (h1 : CodeIn w x da oa ga dl dc ol oc gl gc) (h2 : CodeIn w y da' oa' ga' dl' dc' ol' oc' gl' gc') (hm : ∀ d ∈ x.data, d.words.length ≤ 140737488355328) :
    Calls Tryd.prog 17 #[codeV x da oa ga dl dc ol oc gl gc, codeV y da' oa' ga' dl' dc' ol' oc' gl' gc'] w fun e w' => SaysB e (x = y) ∧ Below w.heap.size w w' := by
  have H1 := Lib.hid h1
  have H2 := Lib.hid h2
  have HF0 : Hid (∀ W, RdD W (.slice da dl dc) x.data → RdD W (.slice da' dl' dc') y.data → Calls Tryd.prog 48 #[.slice da dl dc, .slice da' dl' dc', (.func (.func 49) #[] #[])] W fun e w' => SaysB e (x.data = y.data) ∧ Below W.heap.size W w') := fun W g1 g2 => EqualFunc_c da da' dl dl' dc dc' x.data y.data W g1 g2 hm
  have HO0 : Hid (∀ W, RdO W (.slice oa ol oc) x.ops → RdO W (.slice oa' ol' oc') y.ops → Calls Tryd.prog 50 #[.slice oa ol oc, .slice oa' ol' oc'] W fun e w' => SaysB e (x.ops = y.ops) ∧ Below W.heap.size W w') := fun W g1 g2 => EqualOps_c oa oa' ol ol' oc oc' x.ops y.ops W g1 g2
  have HE0 : Hid (∀ W, RdE W (.slice ga gl gc) x.globals → RdE W (.slice ga' gl' gc') y.globals → Calls Tryd.prog 51 #[.slice ga gl gc, .slice ga' gl' gc'] W fun e w' => SaysB e (x.globals = y.globals) ∧ Below W.heap.size W w') := fun W g1 g2 => EqualEnts_c ga ga' gl gl' gc gc' x.globals y.globals W g1 g2
  have hX : (x = y) ↔ x.name = y.name ∧ x.procs = y.procs ∧ x.labels = y.labels ∧ x.data = y.data ∧ x.ops = y.ops ∧ x.globals = y.globals := by
    obtain ⟨a, b, c, d, e, f⟩ := x
    obtain ⟨a', b', c', d', e', f'⟩ := y
    constructor
    · intro h; injection h with k1 k2 k3 k4 k5 k6; exact ⟨k1, k5, k6, k2, k3, k4⟩
    · rintro ⟨k1, k2, k3, k4, k5, k6⟩; dsimp only at k1 k2 k3 k4 k5 k6; rw [k1, k2, k3, k4, k5, k6]
  obtain ⟨X, hXX⟩ : ∃ p : Prop, (x = y) = p := ⟨_, rfl⟩
  obtain ⟨P1, hP1⟩ : ∃ p : Prop, (x.data = y.data) = p := ⟨_, rfl⟩
  obtain ⟨P2, hP2⟩ : ∃ p : Prop, (x.ops = y.ops) = p := ⟨_, rfl⟩
  obtain ⟨P3, hP3⟩ : ∃ p : Prop, (x.globals = y.globals) = p := ⟨_, rfl⟩
  rw [hXX, hP1, hP2, hP3] at hX
  rw [hXX]
  rw [hP1] at HF0
  rw [hP2] at HO0
  rw [hP3] at HE0
  have HF := Lib.hid HF0.out
  have HO := Lib.hid HO0.out
  have HE := Lib.hid HE0.out
  obtain ⟨T1, hT1⟩ : ∃ t : Bool, (t = true ↔ P1) := ⟨@decide P1 (Classical.propDecidable _), by simp⟩
  obtain ⟨T2, hT2⟩ : ∃ t : Bool, (t = true ↔ P2) := ⟨@decide P2 (Classical.propDecidable _), by simp⟩
  obtain ⟨T3, hT3⟩ : ∃ t : Bool, (t = true ↔ P3) := ⟨@decide P3 (Classical.propDecidable _), by simp⟩
  clear h1 h2
  have h1 := Lib.hid hT1
  have h2 := Lib.hid hT2
  have h3 := Lib.hid hT3
  have HX := Lib.hid hX
  obtain ⟨name, data, ops, globals, procs, labels⟩ := x
  obtain ⟨name', data', ops', globals', procs', labels'⟩ := y
  dsimp only at *
  obtain ⟨r1, hr1⟩ : ∃ r : ByteArray, (⟨name.toArray⟩ : ByteArray) = r := ⟨_, rfl⟩
  obtain ⟨r2, hr2⟩ : ∃ r : ByteArray, (⟨name'.toArray⟩ : ByteArray) = r := ⟨_, rfl⟩
  have HR1 := Lib.hid hr1
  have HR2 := Lib.hid hr2
  show Calls Tryd.prog 17 #[.agg #[.string ⟨name.toArray⟩, .slice da dl dc, .slice oa ol oc, .slice ga gl gc, .int .i64 procs, .int .i64 labels], .agg #[.string ⟨name'.toArray⟩, .slice da' dl' dc', .slice oa' ol' oc', .slice ga' gl' gc', .int .i64 procs', .int .i64 labels']] w _
  rw [hr1, hr2]
  clear hr1 hr2 hXX hP1 hP2 hP3 hX hT1 hT2 hT3 HF0 HO0 HE0 hm
  by_cases e0 : name = name'
  case neg =>
    have f := strNe HR1.out HR2.out e0
    have fr : ¬ r1 = r2 := fun h => e0 (bytes_eq.1 (HR1.out.trans (h.trans HR2.out.symm)))
    have hn : Hid (¬ X) := fun h => e0 (HX.out.1 h).1
    clear e0
    go_enter Tryd.func17, Tryd.ntmps17
    go_wp2
    all_goals go_ret
    all_goals exact ⟨⟨false, rfl, by simp; exact hn.out⟩, (below_then (below_alloc _ _) (below_alloc _ _))⟩
  have fr : r1 = r2 := HR1.out.symm.trans ((congrArg (fun (t : List UInt8) => (⟨t.toArray⟩ : ByteArray)) e0).trans HR2.out)
  subst fr
  by_cases e1 : procs = procs'
  case neg =>
    have f : (procs == procs') = false := by simpa using e1
    have hn : Hid (¬ X) := fun h => e1 (HX.out.1 h).2.1
    clear e0
    go_enter Tryd.func17, Tryd.ntmps17
    go_wp2
    all_goals go_ret
    all_goals exact ⟨⟨false, rfl, by simp; exact hn.out⟩, (below_then (below_alloc _ _) (below_alloc _ _))⟩
  by_cases e2 : labels = labels'
  case neg =>
    have f : (labels == labels') = false := by simpa using e2
    have hn : Hid (¬ X) := fun h => e2 (HX.out.1 h).2.2.1
    subst e1
    clear e0
    go_enter Tryd.func17, Tryd.ntmps17
    go_wp2
    all_goals go_ret
    all_goals exact ⟨⟨false, rfl, by simp; exact hn.out⟩, (below_then (below_alloc _ _) (below_alloc _ _))⟩
  have HX2 : Hid (X ↔ P1 ∧ P2 ∧ P3) := by show _ ↔ _; rw [HX.out]; exact ⟨fun h => h.2.2.2, fun h => ⟨e0, e1, e2, h⟩⟩
  subst e1 e2
  clear e0 HX
  have K1 : Hid (∀ t : Bool, (t = true ↔ P1) → t = T1) := fun t h => Bool.eq_iff_iff.2 (h.trans h1.out.symm)
  have K2 : Hid (∀ t : Bool, (t = true ↔ P2) → t = T2) := fun t h => Bool.eq_iff_iff.2 (h.trans h2.out.symm)
  have K3 : Hid (∀ t : Bool, (t = true ↔ P3) → t = T3) := fun t h => Bool.eq_iff_iff.2 (h.trans h3.out.symm)
  cases T1 with
  | false =>
    have hn : Hid (¬ X) := fun h => by have := h1.out.2 (HX2.out.1 h).1; cases this
    clear h1 h2 h3
    go_enter Tryd.func17, Tryd.ntmps17
    go_wp2_with (go_at_call 48; refine (HF.out _ (H1.out.keep (below_then (below_alloc _ _) (below_alloc _ _))).data (H2.out.keep (below_then (below_alloc _ _) (below_alloc _ _))).data).mono ?_; rintro e w1 ⟨⟨t1, rfl, ht1⟩, hb1⟩; have et1 := K1.out _ ht1; subst et1; clear ht1; obtain ⟨hcc1, hff1⟩ := bcell hb1; have z1 := hb1.size; have zw1 : w.heap.size < w1.heap.size := (by first | omega | (simp at z1; omega)); have zv1 : w.heap.size + 1 < w1.heap.size := (by first | omega | (simp at z1; omega)))
    all_goals go_ret
    all_goals exact ⟨⟨false, rfl, by simp; exact hn.out⟩, (below_then (below_then (below_alloc _ _) (below_alloc _ _)) hb1)⟩
  | true =>
    cases T2 with
    | false =>
      have hn : Hid (¬ X) := fun h => by have := h2.out.2 (HX2.out.1 h).2.1; cases this
      clear h1 h2 h3
      go_enter Tryd.func17, Tryd.ntmps17
      go_wp2_with (first
        | (go_at_call 48; refine (HF.out _ (H1.out.keep (below_then (below_alloc _ _) (below_alloc _ _))).data (H2.out.keep (below_then (below_alloc _ _) (below_alloc _ _))).data).mono ?_; rintro e w1 ⟨⟨t1, rfl, ht1⟩, hb1⟩; have et1 := K1.out _ ht1; subst et1; clear ht1; obtain ⟨hcc1, hff1⟩ := bcell hb1; have z1 := hb1.size; have zw1 : w.heap.size < w1.heap.size := (by first | omega | (simp at z1; omega)); have zv1 : w.heap.size + 1 < w1.heap.size := (by first | omega | (simp at z1; omega)))
        | (go_at_call 50; refine (HO.out _ (H1.out.keep (below_then (below_then (below_alloc _ _) (below_alloc _ _)) hb1)).ops (H2.out.keep (below_then (below_then (below_alloc _ _) (below_alloc _ _)) hb1)).ops).mono ?_; rintro e w2 ⟨⟨t2, rfl, ht2⟩, hb2⟩; have et2 := K2.out _ ht2; subst et2; clear ht2; obtain ⟨hcc2, hff2⟩ := bcell hb2; have z2 := hb2.size; have zw2 : w.heap.size < w2.heap.size := (by first | omega | (simp at z2; omega)); have zv2 : w.heap.size + 1 < w2.heap.size := (by first | omega | (simp at z2; omega))))
      all_goals go_ret
      all_goals exact ⟨⟨false, rfl, by simp; exact hn.out⟩, (below_then (below_then (below_then (below_alloc _ _) (below_alloc _ _)) hb1) hb2)⟩
    | true =>
      cases T3 with
      | false =>
        have hn : Hid (¬ X) := fun h => by have := h3.out.2 (HX2.out.1 h).2.2; cases this
        clear h1 h2 h3
        go_enter Tryd.func17, Tryd.ntmps17
        go_wp2_with (first
          | (go_at_call 48; refine (HF.out _ (H1.out.keep (below_then (below_alloc _ _) (below_alloc _ _))).data (H2.out.keep (below_then (below_alloc _ _) (below_alloc _ _))).data).mono ?_; rintro e w1 ⟨⟨t1, rfl, ht1⟩, hb1⟩; have et1 := K1.out _ ht1; subst et1; clear ht1; obtain ⟨hcc1, hff1⟩ := bcell hb1; have z1 := hb1.size; have zw1 : w.heap.size < w1.heap.size := (by first | omega | (simp at z1; omega)); have zv1 : w.heap.size + 1 < w1.heap.size := (by first | omega | (simp at z1; omega)))
          | (go_at_call 50; refine (HO.out _ (H1.out.keep (below_then (below_then (below_alloc _ _) (below_alloc _ _)) hb1)).ops (H2.out.keep (below_then (below_then (below_alloc _ _) (below_alloc _ _)) hb1)).ops).mono ?_; rintro e w2 ⟨⟨t2, rfl, ht2⟩, hb2⟩; have et2 := K2.out _ ht2; subst et2; clear ht2; obtain ⟨hcc2, hff2⟩ := bcell hb2; have z2 := hb2.size; have zw2 : w.heap.size < w2.heap.size := (by first | omega | (simp at z2; omega)); have zv2 : w.heap.size + 1 < w2.heap.size := (by first | omega | (simp at z2; omega)))
          | (go_at_call 51; refine (HE.out _ (H1.out.keep (below_then (below_then (below_then (below_alloc _ _) (below_alloc _ _)) hb1) hb2)).globals (H2.out.keep (below_then (below_then (below_then (below_alloc _ _) (below_alloc _ _)) hb1) hb2)).globals).mono ?_; rintro e w3 ⟨⟨t3, rfl, ht3⟩, hb3⟩; have et3 := K3.out _ ht3; subst et3; clear ht3))
        all_goals go_ret
        all_goals exact ⟨⟨false, rfl, by simp; exact hn.out⟩, (below_then (below_then (below_then (below_then (below_alloc _ _) (below_alloc _ _)) hb1) hb2) hb3)⟩
      | true =>
        have hy : Hid X := HX2.out.2 ⟨h1.out.1 rfl, h2.out.1 rfl, h3.out.1 rfl⟩
        clear h1 h2 h3
        go_enter Tryd.func17, Tryd.ntmps17
        go_wp2_with (first
          | (go_at_call 48; refine (HF.out _ (H1.out.keep (below_then (below_alloc _ _) (below_alloc _ _))).data (H2.out.keep (below_then (below_alloc _ _) (below_alloc _ _))).data).mono ?_; rintro e w1 ⟨⟨t1, rfl, ht1⟩, hb1⟩; have et1 := K1.out _ ht1; subst et1; clear ht1; obtain ⟨hcc1, hff1⟩ := bcell hb1; have z1 := hb1.size; have zw1 : w.heap.size < w1.heap.size := (by first | omega | (simp at z1; omega)); have zv1 : w.heap.size + 1 < w1.heap.size := (by first | omega | (simp at z1; omega)))
          | (go_at_call 50; refine (HO.out _ (H1.out.keep (below_then (below_then (below_alloc _ _) (below_alloc _ _)) hb1)).ops (H2.out.keep (below_then (below_then (below_alloc _ _) (below_alloc _ _)) hb1)).ops).mono ?_; rintro e w2 ⟨⟨t2, rfl, ht2⟩, hb2⟩; have et2 := K2.out _ ht2; subst et2; clear ht2; obtain ⟨hcc2, hff2⟩ := bcell hb2; have z2 := hb2.size; have zw2 : w.heap.size < w2.heap.size := (by first | omega | (simp at z2; omega)); have zv2 : w.heap.size + 1 < w2.heap.size := (by first | omega | (simp at z2; omega)))
          | (go_at_call 51; refine (HE.out _ (H1.out.keep (below_then (below_then (below_then (below_alloc _ _) (below_alloc _ _)) hb1) hb2)).globals (H2.out.keep (below_then (below_then (below_then (below_alloc _ _) (below_alloc _ _)) hb1) hb2)).globals).mono ?_; rintro e w3 ⟨⟨t3, rfl, ht3⟩, hb3⟩; have et3 := K3.out _ ht3; subst et3; clear ht3))
        all_goals go_ret
        all_goals exact ⟨⟨true, rfl, by simp; exact hy.out⟩, (below_then (below_then (below_then (below_then (below_alloc _ _) (below_alloc _ _)) hb1) hb2) hb3)⟩
theorem words_bd {w : World} {c : OC.Code} {da oa ga : Option Addr} {dl dc ol oc gl gc : Nat} (h : CodeIn w c da oa ga dl dc ol oc gl gc) : ∀ d ∈ c.data, d.words.length ≤ 140737488355328 := by
  intro d hd
  obtain ⟨i, hi, rfl⟩ := List.getElem_of_mem hd
  obtain ⟨hl, -, -⟩ := h.data.len
  obtain ⟨-, b, off, -, -, -, v, -, a, cap, -, hb, -⟩ := h.data.get (show i < dl by omega)
  rwa [getD_at hi] at hb
theorem SameC_c (x y : OC.Code) (da oa ga da' oa' ga' : Option Addr) (dl dc ol oc gl gc dl' dc' ol' oc' gl' gc' : Nat) (w : World) (h1 : CodeIn w x da oa ga dl dc ol oc gl gc) (h2 : CodeIn w y da' oa' ga' dl' dc' ol' oc' gl' gc') :
    Calls Tryd.prog 17 #[codeV x da oa ga dl dc ol oc gl gc, codeV y da' oa' ga' dl' dc' ol' oc' gl' gc'] w fun e w' => SaysB e (x = y) ∧ Below w.heap.size w w' :=
  SameP_c x y da oa ga da' oa' ga' dl dc ol oc gl gc dl' dc' ol' oc' gl' gc' w h1 h2 (words_bd h1)
end Go.Proofs.YthlakfgpmggceaaDoor
