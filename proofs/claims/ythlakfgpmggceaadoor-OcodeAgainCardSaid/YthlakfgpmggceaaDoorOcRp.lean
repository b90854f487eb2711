/- The program's Renumber. -/
import Derived.Test.YthlakfgpmggceaaDoorOcRn
import Derived.Test.YthlakfgpmggceaaDoorOcPr
import Derived.Test.YthlakfgpmggceaaDoorOcQd
import Derived.Test.YthlakfgpmggceaaDoorOcCn
namespace Go.Proofs.YthlakfgpmggceaaDoor
open Go.RowKit
set_option linter.unusedVariables false
set_option linter.unusedSimpArgs false
def RenQ (c : OC.Code) (base : Nat) (e : Ending) (w' : World) : Prop :=
  ∃ da oa ga dl dc ol oc gl gc, e = .returned (.tuple #[codeV (renA c) da oa ga dl dc ol oc gl gc, .int .i64 (checkQ c : Nat)]) ∧ ∀ wz : World, (∀ p x, base ≤ p.block → w'.cell? p = some x → wz.cell? p = some x) → CodeIn wz (renA c) da oa ga dl dc ol oc gl gc
theorem BoxC.set5 {w : World} {b : Nat} {nm : List UInt8} {d : List OC.Dat} {o : List OC.Op} {g : List OC.Ent} {p l : Int} {da oa ga : Option Addr} {dl dc ol oc gl gc : Nat} (h : BoxC w b ⟨nm, d, o, g, p, l⟩ da oa ga dl dc ol oc gl gc) (n : Int) : BoxC (w.setCell ⟨b, 5, none⟩ (.int .i64 n)) b ⟨nm, d, o, g, p, n⟩ da oa ga dl dc ol oc gl gc := by
  obtain ⟨c0, c1, c2, c3, c4, c5⟩ := h
  have oth : ∀ (i : Nat) (u : Value), i ≠ 5 → w.cell? ⟨b, i, none⟩ = some u → (w.setCell ⟨b, 5, none⟩ (.int .i64 n)).cell? ⟨b, i, none⟩ = some u := fun i u hne h =>
    (World.cell?_setCell_other w ⟨b, 5, none⟩ ⟨b, i, none⟩ _ (fun e => by injection e with _ e2; exact hne e2.symm)).trans h
  exact ⟨oth 0 _ (by decide) c0, oth 1 _ (by decide) c1, oth 2 _ (by decide) c2, oth 3 _ (by decide) c3, oth 4 _ (by decide) c4, World.cell?_setCell_same _ _ _ c5⟩
theorem BoxC.other {w : World} {b : Nat} {c : OC.Code} {da oa ga : Option Addr} {dl dc ol oc gl gc : Nat} (h : BoxC w b c da oa ga dl dc ol oc gl gc) {g j : Nat} {u : Value} (hne : b ≠ g) : BoxC (w.setCell ⟨g, j, none⟩ u) b c da oa ga dl dc ol oc gl gc :=
  ⟨(set_other _ _ _ _ _ _ hne).trans h.1, (set_other _ _ _ _ _ _ hne).trans h.2.1, (set_other _ _ _ _ _ _ hne).trans h.2.2.1, (set_other _ _ _ _ _ _ hne).trans h.2.2.2.1, (set_other _ _ _ _ _ _ hne).trans h.2.2.2.2.1, (set_other _ _ _ _ _ _ hne).trans h.2.2.2.2.2⟩
theorem owns_other {w : World} {base : Nat} {e : TypeId} {size : Nat} {v : Value} {n : Nat} {xs : List Value} (h : w.ownsRow base e size v n xs) {g j : Nat} {u : Value} (hne : v.ownBlock ≠ some g) : (w.setCell ⟨g, j, none⟩ u).ownsRow base e size v n xs := by
  refine ⟨h.1, ?_⟩
  rcases h.2 with hn | ⟨g', cap, cur, rfl, hb, hg, rest⟩
  · exact .inl hn
  · exact .inr ⟨g', cap, cur, rfl, hb, (Below.heap_setCell _ _ _ _ (by intro e; exact hne (by dsimp only at e; rw [show g = g' from by first | exact e | exact e.symm]; rfl))).trans hg, rest⟩
set_option maxRecDepth 100000 in
set_option maxHeartbeats 1000000 in
theorem RenumberQ_c (c : OC.Code) (da oa ga : Option Addr) (dl dc ol oc gl gc : Nat) (w : World) (hc : CodeIn w c da oa ga dl dc ol oc gl gc) (hs : Small c) (hi : InstAt w) :
    Calls Tryd.prog 27 #[codeV c da oa ga dl dc ol oc gl gc] w fun e w' => RenQ c w.heap.size e w' ∧ Below w.heap.size w w' := by
  obtain ⟨hol, hoc, _⟩ := hc.ops.len
  have HC := Lib.hid hc
  have HO := Lib.hid hol
  have hol2 := hs.ops
  rw [← hol] at hol2
  have HS := Lib.hid hs
  obtain ⟨ii, hi2, hz0, hz1, hz2⟩ := info_parts int_info
  have HI := Lib.hid hi2
  have HT := Lib.hid hi
  have HZ0 := Lib.hid hz0
  have HZ1 := Lib.hid hz1
  have HZ2 := Lib.hid hz2
  clear hi hi2 hz0 hz1 hz2
  obtain ⟨E, hE⟩ : ∃ E, checkQ c = E := ⟨_, rfl⟩
  have HCK : Hid (∀ W, CodeIn W c da oa ga dl dc ol oc gl gc → InstAt W → Calls Tryd.prog 15 #[codeV c da oa ga dl dc ol oc gl gc] W fun e w' => e = .returned (.int .i64 (E : Int)) ∧ Below W.heap.size W w') := fun W hW hI => by have h := CheckQ_c c da oa ga dl dc ol oc gl gc W hW hs hI; rwa [hE] at h
  unfold RenQ
  rw [hE]
  by_cases hE0 : E = 0
  case neg =>
    have hX : renA c = OC.cz := by unfold renA; rw [if_neg (fun h => hE0 (hE.symm.trans ((checkQ_zero c).2 h)))]
    rw [hX]
    have ee : ((E : Int) != 0) = true := by simp; omega
    obtain ⟨name, data, ops, globals, procs, labels⟩ := c
    clear hE hE0 hs hc hol hX HS
    go_enter Tryd.func27, Tryd.ntmps27
    go_wp2_with (go_at_call 15; refine (HCK.out _ (HC.out.keep (below_then (below_alloc _ _) (below_alloc _ _))) (HT.out.keep (below_then (below_alloc _ _) (below_alloc _ _)) (Nat.le_refl _))).mono ?_; rintro e w1 ⟨rfl, hb1⟩; obtain ⟨hcc1, hff1⟩ := bcell hb1; have z1 := hb1.size; have zw1 : w.heap.size + 1 < w1.heap.size := (by simp at z1; omega))
    -- BEGIN
    have HZ := (BoxC.new (w.alloc (.cells #[.string ⟨name.toArray⟩, .slice da dl dc, .slice oa ol oc, .slice ga gl gc, .int .i64 procs, .int .i64 labels] 26)) OC.cz none none none 0 0 0 0 0 0 26).keep hb1 (by simp)
    rw [show (w.alloc (.cells #[.string ⟨name.toArray⟩, .slice da dl dc, .slice oa ol oc, .slice ga gl gc, .int .i64 procs, .int .i64 labels] 26)).heap.size = w.heap.size + 1 from by simp] at HZ
    obtain ⟨e0, e1, e2, e3, e4, e5⟩ := HZ
    obtain ⟨t0, t1, t2, t3, t4, t5⟩ := six_set (.string ⟨#[]⟩) (.slice none 0 0) (.slice none 0 0) (.slice none 0 0) (.int .i64 0) (.int .i64 0) e0 e1 e2 e3 e4 e5
    have HLZ := (Below.setCell (Below.setCell (Below.setCell (Below.setCell (Below.setCell (Below.setCell (below_then (below_then (below_alloc w _) (below_alloc _ _)) hb1) (p := ⟨w.heap.size + 1, 0, none⟩) (Nat.le_succ _) (.string ⟨#[]⟩)) (p := ⟨w.heap.size + 1, 1, none⟩) (Nat.le_succ _) (.slice none 0 0)) (p := ⟨w.heap.size + 1, 2, none⟩) (Nat.le_succ _) (.slice none 0 0)) (p := ⟨w.heap.size + 1, 3, none⟩) (Nat.le_succ _) (.slice none 0 0)) (p := ⟨w.heap.size + 1, 4, none⟩) (Nat.le_succ _) (.int .i64 0)) (p := ⟨w.heap.size + 1, 5, none⟩) (Nat.le_succ _) (.int .i64 0))
    refine bodyPost_ret (v := .tuple #[.agg #[.string ⟨#[]⟩, .slice none 0 0, .slice none 0 0, .slice none 0 0, .int .i64 0, .int .i64 0], .int .i64 (E : Int)]) (by simp [results, Tryd.results27, go_sem, t0, t1, t2, t3, t4, t5]) rfl ?_
    exact ⟨⟨none, none, none, 0, 0, 0, 0, 0, 0, rfl, fun wz _ => ⟨RdP.nil _, RdP.nil _, RdP.nil _, by decide⟩⟩, HLZ⟩
  subst hE0
  have hE1 : checkE c = 0 := (checkQ_zero c).1 hE
  have hX : renA c = renum c := by unfold renA; rw [if_pos hE1]
  rw [hX]
  obtain ⟨hnum, hord, hl0, hl1, _, _, _⟩ := checkE_ok hE1
  have HRO := Lib.hid (renum_ok hE1)
  have HN := Lib.hid hnum
  obtain ⟨lq, hlq⟩ : ∃ lq : Nat, c.labels + 1 = (lq : Int) := ⟨(c.labels + 1).toNat, by omega⟩
  have hlq1 : lq ≤ 20001 := by omega
  have HT0 : Hid (toC c = toG c.ops 0 (List.replicate lq 0)) := by show _ = _; unfold toC; rw [hlq, Int.toNat_natCast]
  obtain ⟨R, hR⟩ : ∃ R, renum c = R := ⟨_, rfl⟩
  rw [hR]
  have HR := Lib.hid hR
  obtain ⟨name, data, ops, globals, procs, labels⟩ := c
  dsimp only at *
  have HLQ := Lib.hid hlq
  clear hE hE1 hs hc hol hX hnum hord hR
  have HCP : Hid (∀ W, CodeIn W ⟨name, data, ops, globals, procs, labels⟩ da oa ga dl dc ol oc gl gc → Calls Tryd.prog 63 #[codeV ⟨name, data, ops, globals, procs, labels⟩ da oa ga dl dc ol oc gl gc] W fun e w' => CopyR ⟨name, data, ops, globals, procs, labels⟩ W.heap.size e w' ∧ Below W.heap.size W w') := fun W hW => clone_c _ da oa ga dl dc ol oc gl gc W hW HS.out.ops HS.out.globals (by have := HS.out.weight; have := wsum_len data; dsimp only at *; omega) (fun d hd => by have := HS.out.weight; have := wsum_at hd; dsimp only at *; omega)
  go_enter Tryd.func27, Tryd.ntmps27
  go_wp2_with (first
    | (go_at_call 15; refine (HCK.out _ (HC.out.keep (below_then (below_alloc _ _) (below_alloc _ _))) (HT.out.keep (below_then (below_alloc _ _) (below_alloc _ _)) (Nat.le_refl _))).mono ?_; rintro e w1 ⟨rfl, hb1⟩; have HB1 := Lib.hid (((BoxC.new w ⟨name, data, ops, globals, procs, labels⟩ da oa ga dl dc ol oc gl gc 26).keep (below_alloc _ _) (by simp)).keep hb1 (by first | (simp; done) | (simp; omega))); have HL1 := Lib.hid (below_then (below_then (below_alloc w _) (below_alloc _ _)) hb1); obtain ⟨c0, c1, c2, c3, c4, c5⟩ := HB1.out)
    | (go_at_call 63; refine (HCP.out _ (HC.out.keep HL1.out)).mono ?_; rintro e w4 ⟨⟨da', oa', ga', dl', dc', ol', oc', gl', gc', rfl, hin4, hown4, hap4⟩, hb4⟩; have hs4 := hb4.size; have HB4 := Lib.hid (HB1.out.keep hb4 HB1.out.lt); clear c0 c1 c2 c3 c4 c5; obtain ⟨c0, c1, c2, c3, c4, c5⟩ := HB4.out; have q4 : w.heap.size < w4.heap.size := HB4.out.lt)
    | (at_make; refine wpList_make_full _ rfl _ _ 34 rfl 0 3 ii (.int .i64 0) 1 Tryd.underlying34 HI.out HZ0.out HZ1.out .i64 .i64 _ _ lq rfl rfl rfl rfl (by rw [HZ2.out]; omega) (by unfold maxLen; omega) (Nat.zero_le _) ?_; intro w2 hown2 hg2; have hb2 := below_grown hg2; have HBX := Lib.hid ((BoxC.new w4 ⟨name, data, ops, globals, procs, 0⟩ da' oa' ga' dl' dc' ol' oc' gl' gc' 26).keep hb2 (by simp)); have HB5 := Lib.hid ((HB4.out.keep (below_alloc _ _) q4).keep hb2 (by simp; omega)); clear c0 c1 c2 c3 c4 c5; obtain ⟨c0, c1, c2, c3, c4, c5⟩ := HB5.out; have HO5 := Lib.hid (owns_keep' (hown4.alloc _) hb2); have HBL := Lib.hid (below_then hb4 (below_then (below_alloc _ _) hb2))))
  obtain ⟨h, hh⟩ : ∃ h, w4.heap.size = h := ⟨_, rfl⟩
  have HH := Lib.hid hh
  rw [show (w4.alloc (.cells #[.string ⟨name.toArray⟩, .slice da' dl' dc', .slice oa' ol' oc', .slice ga' gl' gc', .int .i64 procs, .int .i64 0] 26)).heap.size = h + 1 from by rw [← hh]; simp] at hown2
  rw [hh] at HBX q4 ⊢
  have HOW : Hid (w2.ownsRow 0 3 1 (.slice (some ⟨h + 1, 0, none⟩) lq lq) lq ((List.replicate lq (0 : Int)).map (.int .i64))) := by show World.ownsRow _ _ _ _ _ _ _; rw [← zeros_eq]; exact hown2
  have HB42 := Lib.hid (below_then (below_alloc w4 _) hb2)
  have HFZ : Hid (w2.frozen? ⟨h, 5, none⟩ = false) := (hb2.frozen (p := ⟨h, 5, none⟩) (by rw [← hh]; simp)).trans (by rw [← hh]; simp [go_sem])
  have HR4 := Lib.hid hown4
  have HA4 := Lib.hid hap4
  have HI4 := Lib.hid hin4
  have HB14 := Lib.hid hb4
  have HB01 := Lib.hid hb1
  clear hb1 hb2 hg2 hown2 hown4 hap4 hin4 hb4 hs4 c0 c1 c2 c3 c4 c5 HO5 HBL hh
  go_loopw [27] (fun i wr => ∃ (k n : Nat) (T : List Int), k ≤ ol ∧ i = .int .i64 k ∧ n ≤ k ∧ T.length = lq ∧ wr.ownsRow 0 3 1 (.slice (some ⟨h + 1, 0, none⟩) lq lq) lq (T.map (.int .i64)) ∧ Hid (BoxC wr h ⟨name, data, ops, globals, procs, (n : Int)⟩ da' oa' ga' dl' dc' ol' oc' gl' gc') ∧ Hid (wr.frozen? ⟨h, 5, none⟩ = false) ∧ Hid (toG ops 0 (List.replicate lq 0) = toG (ops.drop k) (n : Int) T) ∧ Hid ((lbs ops).length = n + (lbs (ops.drop k)).length) ∧ Below w4.heap.size w4 wr) (fun i _ => ol - (intOf i).toNat)
  case atStart => exact ⟨0, 0, List.replicate lq 0, Nat.zero_le _, rfl, Nat.le_refl _, by simp, HOW.out, HBX.out, HFZ.out, (rfl : toG ops 0 (List.replicate lq 0) = _), (by simp : (lbs ops).length = 0 + (lbs (ops.drop 0)).length), HB42.out⟩
  case round =>
    clear HOW HB42 HBX HFZ
    obtain ⟨k, n, T, hk, rfl, hnk, hTl, hown, hbx, hfz5, hq, hcnt, hbl⟩ := hrel
    have HOWN := Lib.hid hown
    have HTL := Lib.hid hTl
    have HBL := Lib.hid hbl
    have hgz : h + 1 < wr.heap.size := (hown.lt _ rfl).2
    have hwz : w.heap.size < wr.heap.size := by omega
    have hhz : h < wr.heap.size := by omega
    obtain ⟨d0, d1, d2, d3, d4, d5⟩ := hbx.out
    by_cases hlt : k < ol
    · obtain ⟨hx1, b, off, rfl, hat⟩ := HC.out.ops.get hlt
      clear hx1
      have hbw : b < w.heap.size := World.block_lt_of_cell? _ _ hat.1
      have hall : Below w.heap.size w wr := below_then (below_then HL1.out HB14.out) hbl
      obtain ⟨h0, h1, h2⟩ := hat.keep hall
      have hkl : k < ops.length := by rw [← HO.out]; exact hlt
      have hto := toG_drop hkl (n : Int) T
      have hlb := lbs_take_succ hkl
      have hnb := HN.out _ (getD_map_range ops OC.oz hkl)
      generalize ops.getD k OC.oz = x at *
      obtain ⟨op, nn, m⟩ := x
      dsimp only at *
      have k1 : (k : Int) < (ol : Int) := by omega
      have hkb : k ≤ 40100 := by omega
      clear hat hbl hown hTl
      by_cases h19 : op = 19
      · subst h19
        rw [if_pos rfl] at hto hlb
        have hnn : 1 ≤ nn ∧ nn ≤ labels := by simp [OC.numB, OC.inB] at hnb; omega
        obtain ⟨j, hj⟩ : ∃ j : Nat, nn = (j : Int) := ⟨nn.toNat, by omega⟩
        subst hj
        rw [Int.toNat_natCast] at hto
        have hjl : j < lq := by have := HLQ.out; omega
        have j1 : (j : Int) < (lq : Int) := by omega
        have hcell : wr.cell? ⟨h + 1, j, none⟩ = some (.int .i64 (T.getD j 0)) := by rw [HOWN.out.cellAt j (by omega)]; have := HTL.out; simp [this, hjl]
        have hfz : wr.frozen? ⟨h + 1, j, none⟩ = false := HOWN.out.frozenAt j
        have HQ2 : Hid (toG ops 0 (List.replicate lq 0) = toG (ops.drop (k + 1)) ((n + 1 : Nat) : Int) (T.set j ((n : Int) + 1))) := by show _ = _; rw [hq.out, hto]; rfl
        have HC2 : Hid ((lbs ops).length = (n + 1) + (lbs (ops.drop (k + 1))).length) := by show _ = _; rw [hcnt.out, hlb, List.length_cons]; omega
        have nb : n ≤ 40100 := by omega
        have hf5 := hfz5.out
        clear hto hlb hnb hq hcnt hnn
        go_wp2
        go_roundw
        case rel =>
          refine ⟨k + 1, n + 1, T.set j ((n : Int) + 1), by omega, by go_num, by omega, by rw [List.length_set]; exact HTL.out, by rw [List.map_set]; exact ((owns_other (g := h) (j := 5) (u := .int .i64 ((n : Int) + 1)) HOWN.out (by simp [Value.ownBlock])).stored j (.int .i64 ((n : Int) + 1))).1.alloc _, ?_, ?_, HQ2.out, HC2.out, below_then ((HBL.out.setCell (p := ⟨h, 5, none⟩) (by rw [HH.out]; exact Nat.le_refl _) _).setCell (p := ⟨h + 1, j, none⟩) (by rw [HH.out]; exact Nat.le_succ _) _) (below_alloc _ _)⟩
          · exact BoxC.keep (BoxC.other (g := h + 1) (j := j) (u := .int .i64 ((n : Int) + 1)) (BoxC.set5 hbx.out ((n : Int) + 1)) (by omega)) (below_alloc _ _) (by simp; omega)
          · exact ((below_alloc _ _).frozen (p := ⟨h, 5, none⟩) (by simp; omega)).trans ((World.frozen?_setCell ..).trans ((World.frozen?_setCell ..).trans hfz5.out))
        case measure => simp [intOf]; omega
      · rw [if_neg h19] at hto hlb
        have e19 : (op == 19) = false := by simpa using h19
        have HQ2 : Hid (toG ops 0 (List.replicate lq 0) = toG (ops.drop (k + 1)) (n : Int) T) := by show _ = _; rw [hq.out, hto]
        have HC2 : Hid ((lbs ops).length = n + (lbs (ops.drop (k + 1))).length) := by show _ = _; rw [hcnt.out, hlb]
        clear hto hlb hnb hq hcnt h19
        go_wp2
        go_roundw
        case rel => exact ⟨k + 1, n, T, by omega, by go_num, by omega, HTL.out, owns_keep' HOWN.out (below_alloc wr _), hbx.out.keep (below_alloc wr _) hhz, ((below_alloc wr _).frozen (p := ⟨h, 5, none⟩) hhz).trans hfz5.out, HQ2.out, HC2.out, below_then HBL.out (below_alloc wr _)⟩
        case measure => simp [intOf]; omega
    · obtain rfl : ol = k := by omega
      obtain ⟨WR, hWR⟩ : ∃ W, W = wr := ⟨_, rfl⟩
      subst hWR
      have hT : Hid (toG ops 0 (List.replicate lq 0) = T) := by
        show _ = _
        rw [hq.out, List.drop_eq_nil_of_le (by rw [← HO.out]; exact Nat.le_refl _)]; rfl
      have hn : Hid ((lbs ops).length = n) := by
        show _ = _
        rw [hcnt.out, List.drop_eq_nil_of_le (by rw [← HO.out]; exact Nat.le_refl _)]; rfl
      have hl4 : ol' = ol := by rw [HI4.out.ops.len.1]; exact HO.out.symm
      subst hl4
      clear hq hcnt hown hTl hbl
      go_wp2
      have HR5 : Hid (WR.ownsRow w1.heap.size 50 3 (.slice oa' ol' oc') ol' (opCells ops)) := by
        show World.ownsRow _ _ _ _ _ _ _
        have e := owns_keep' HR4.out HBL.out
        rw [← HO.out] at e
        exact e
      have hneO : Hid (∀ B, (Value.slice oa' ol' oc').ownBlock = some B → w1.heap.size ≤ B ∧ B < h) := fun B hB => by have := HR4.out.lt B hB; rw [HH.out] at this; exact this
      have HBW := Lib.hid (below_then (below_then HL1.out HB14.out) HBL.out)
      have HB1W := Lib.hid (below_then HB14.out HBL.out)
      go_loopw [48] (fun i wr => ∃ (k : Nat), k ≤ ol' ∧ i = .int .i64 k ∧ wr.ownsRow w1.heap.size 50 3 (.slice oa' ol' oc') ol' (opCells (mix (ren T) ops k)) ∧ Hid (∀ p x, WR.cell? p = some x → some p.block ≠ (Value.slice oa' ol' oc').ownBlock → wr.cell? p = some x) ∧ Below w1.heap.size w1 wr) (fun i _ => ol' - (intOf i).toNat)
      case atStart => exact ⟨0, Nat.zero_le _, rfl, by rw [show mix (ren T) ops 0 = ops from by simp [mix]]; exact HR5.out, (fun p x h _ => h), HB1W.out⟩
      case round =>
        obtain ⟨k, hk, rfl, hownq, hcell, hblq⟩ := hrel
        by_cases hlt : k < ol'
        · obtain ⟨gO, cO, hvO⟩ := owns_pos hownq (by omega)
          simp only [Value.slice.injEq, true_and] at hvO
          obtain ⟨rfl, rfl⟩ := hvO
          have hgO := hneO.out gO rfl
          have hb5 := hbx.out
          clear d0 d1 d2 d3 d4 d5
          have d2 := hcell.out _ _ hb5.2.2.1 (by simp [Value.ownBlock]; omega)
          have hkl : k < ops.length := by rw [← HO.out]; exact hlt
          have hml : k < (mix (ren T) ops k).length := by rw [mix_len _ _ _ (by omega)]; exact hkl
          obtain ⟨r0, r1, r2⟩ := opCells_at (mix (ren T) ops k) k hml
          rw [mix_at hkl] at r0 r1 r2
          have q0 := (hownq.cellAt (k * 3) (by omega)).trans r0
          have q1 := (hownq.cellAt (k * 3 + 1) (by omega)).trans r1
          have q2 := (hownq.cellAt (k * 3 + 2) (by omega)).trans r2
          have fq := fun j => hownq.frozenAt j
          have hnb := HN.out _ (getD_map_range ops OC.oz hkl)
          have HST := mix_set (f := ren T) hkl
          have HS1 := opCells_set1 (mix (ren T) ops k) k
          have HS2 := opCells_set2 (mix (ren T) ops k) k
          rw [mix_at hkl] at HS1 HS2
          have HID := mix_id (f := ren T) hkl
          generalize ops.getD k OC.oz = x at *
          obtain ⟨op, nn, m⟩ := x
          dsimp only at q0 q1 q2 HS1 HS2 hnb r0 r1 r2
          have k1 : (k : Int) < (ol' : Int) := by omega
          have hkb : k ≤ 40100 := by omega
          have HCL := Lib.hid hcell.out
          have HQW := Lib.hid hownq
          have HBQ := Lib.hid hblq
          have sq : h < wr.heap.size := World.block_lt_of_cell? _ _ d2
          have gq : gO < wr.heap.size := (hownq.lt gO rfl).2
          have f1 := fq (k * 3 + 1)
          have f2 := fq (k * 3 + 2)
          have hopb : 0 ≤ op ∧ op ≤ 30 := by
            have hq := hnb
            simp [OC.numB, OC.inB] at hq
            omega
          have HPO : Hid (OpAt wr gO (k * 3) ⟨op, nn, m⟩) := ⟨q0, q1, q2⟩
          have HLO : Hid (∀ W, Below wr.heap.size wr W → Calls Tryd.prog 64 #[.pointer (some ⟨gO, k * 3, none⟩)] W fun e w' => e = .returned (labPtr op gO (k * 3)) ∧ Below W.heap.size W w') := fun W hW => labelOfP_c ⟨op, nn, m⟩ gO (k * 3) W (HT.out.keep (below_then (below_then HL1.out HBQ.out) hW) (Nat.le_refl _)) hopb.1 hopb.2 (HPO.out.keep hW)
          clear fq r0 r1 r2 hownq hcell hb5
          have REL : Hid (∀ (w6 w7 : World) (j : Nat) (v : Value) (L : List Value), Below wr.heap.size wr w6 → w7 = (w6.setCell ⟨gO, j, none⟩ v) → (opCells (mix (ren T) ops k)).set j v = opCells (mix (ren T) ops (k + 1)) → w7.ownsRow w1.heap.size 50 3 (.slice (some ⟨gO, 0, none⟩) ol' oc') ol' (opCells (mix (ren T) ops (k + 1))) ∧ Hid (∀ p x, WR.cell? p = some x → some p.block ≠ (Value.slice (some ⟨gO, 0, none⟩) ol' oc').ownBlock → w7.cell? p = some x) ∧ Below w1.heap.size w1 w7) := by
            intro w6 w7 j v L hb6 e hset
            subst e
            have hq6 := owns_keep' HQW.out hb6
            refine ⟨by rw [← hset]; exact (hq6.stored j v).1, fun p x hp hne => ?_, ?_⟩
            · have h1 := HCL.out p x hp hne
              exact (World.cell?_setCell_other _ _ _ _ (fun e => hne (by rw [← e]; rfl))).trans ((hb6.cell (World.block_lt_of_cell? _ _ h1)).trans h1)
            · exact (below_then HBQ.out hb6).setCell (p := ⟨gO, j, none⟩) (by show w1.heap.size ≤ gO; exact hgO.1) v
          have tabq : Hid (∀ j, j < lq → wr.cell? ⟨h + 1, j, none⟩ = some (.int .i64 (T.getD j 0))) := fun j hj => HCL.out _ _ (by rw [HOWN.out.cellAt j (by omega)]; have := HTL.out; simp [this, hj]) (by simp [Value.ownBlock]; omega)
          by_cases hlab : op = 19 ∨ op = 20 ∨ op = 21 ∨ op = 22 ∨ op = 27 ∨ op = 29
          · have hnn : 1 ≤ nn ∧ nn ≤ labels := by rcases hlab with rfl | rfl | rfl | rfl | rfl | rfl <;> (simp [OC.numB, OC.inB] at hnb; omega)
            obtain ⟨j, hj⟩ : ∃ j : Nat, nn = (j : Int) := ⟨nn.toNat, by omega⟩
            subst hj
            have hjl : j < lq := by have := HLQ.out; omega
            have j1 : (j : Int) < (lq : Int) := by omega
            have hL : labPtr op gO (k * 3) = .pointer (some ⟨gO, k * 3 + 1, none⟩) := by rcases hlab with rfl | rfl | rfl | rfl | rfl | rfl <;> simp [labPtr, OC.kindN]
            rw [hL] at HLO
            have tq := tabq.out j hjl
            have hren : ren T ⟨op, (j : Int), m⟩ = ⟨op, T.getD j 0, m⟩ := by
              rcases hlab with rfl | hl
              · rw [ren_19, Int.toNat_natCast]
              · rw [ren_lab hl (by omega), Int.toNat_natCast]
            have HS : Hid ((opCells (mix (ren T) ops k)).set (k * 3 + 1) (.int .i64 (T.getD j 0)) = opCells (mix (ren T) ops (k + 1))) := by show _ = _; rw [HS1 (T.getD j 0) hml, ← HST, hren]
            obtain ⟨z, hz⟩ : ∃ z, T.getD j 0 = z := ⟨_, rfl⟩
            rw [hz] at tq HS
            clear HS1 HS2 HST HID hz hnn hnb hml hkl hren hL hlab
            go_wp2_with (go_at_call 64; refine (HLO.out _ (Below.refl _ _)).mono ?_; rintro e w6 ⟨rfl, hb6⟩; have HB6 := Lib.hid hb6; have y0 := (hb6.cell (World.block_lt_of_cell? _ _ q0)).trans q0; have y1 := (hb6.cell (World.block_lt_of_cell? _ _ q1)).trans q1; have y3 := (hb6.cell (World.block_lt_of_cell? _ _ q2)).trans q2; have yt := (hb6.cell (World.block_lt_of_cell? _ _ tq)).trans tq; have yf := (hb6.frozen (p := ⟨gO, k * 3 + 1, none⟩) (by show gO < wr.heap.size; exact gq)).trans f1; have g6 : gO < w6.heap.size := Nat.lt_of_lt_of_le gq hb6.size; clear hb6 d2 q0 q1 q2 tq f1 f2)
            go_wp2
            go_roundw
            case rel =>
              obtain ⟨r1, r2, r3⟩ := REL.out w6 _ (k * 3 + 1) (.int .i64 z) [] HB6.out rfl HS.out
              exact ⟨k + 1, by omega, by go_num, r1, r2, r3⟩
            case measure => simp [intOf]; omega
          by_cases h30 : op = 30
          · have hnn : 1 ≤ m ∧ m ≤ labels := by (subst h30; simp [OC.numB, OC.inB] at hnb; omega)
            obtain ⟨j, hj⟩ : ∃ j : Nat, m = (j : Int) := ⟨m.toNat, by omega⟩
            subst hj
            have hjl : j < lq := by have := HLQ.out; omega
            have j1 : (j : Int) < (lq : Int) := by omega
            have hL : labPtr op gO (k * 3) = .pointer (some ⟨gO, k * 3 + 2, none⟩) := by (subst h30; simp [labPtr, OC.kindN, OC.kindM])
            rw [hL] at HLO
            have tq := tabq.out j hjl
            have hren : ren T ⟨op, nn, (j : Int)⟩ = ⟨op, nn, T.getD j 0⟩ := by (subst h30; rw [ren_30, Int.toNat_natCast])
            have HS : Hid ((opCells (mix (ren T) ops k)).set (k * 3 + 2) (.int .i64 (T.getD j 0)) = opCells (mix (ren T) ops (k + 1))) := by show _ = _; rw [HS2 (T.getD j 0) hml, ← HST, hren]
            obtain ⟨z, hz⟩ : ∃ z, T.getD j 0 = z := ⟨_, rfl⟩
            rw [hz] at tq HS
            clear HS1 HS2 HST HID hz hnn hnb hml hkl hren hL 
            go_wp2_with (go_at_call 64; refine (HLO.out _ (Below.refl _ _)).mono ?_; rintro e w6 ⟨rfl, hb6⟩; have HB6 := Lib.hid hb6; have y0 := (hb6.cell (World.block_lt_of_cell? _ _ q0)).trans q0; have y1 := (hb6.cell (World.block_lt_of_cell? _ _ q1)).trans q1; have y3 := (hb6.cell (World.block_lt_of_cell? _ _ q2)).trans q2; have yt := (hb6.cell (World.block_lt_of_cell? _ _ tq)).trans tq; have yf := (hb6.frozen (p := ⟨gO, k * 3 + 2, none⟩) (by show gO < wr.heap.size; exact gq)).trans f2; have g6 : gO < w6.heap.size := Nat.lt_of_lt_of_le gq hb6.size; clear hb6 d2 q0 q1 q2 tq f1 f2)
            go_wp2
            go_roundw
            case rel =>
              obtain ⟨r1, r2, r3⟩ := REL.out w6 _ (k * 3 + 2) (.int .i64 z) [] HB6.out rfl HS.out
              exact ⟨k + 1, by omega, by go_num, r1, r2, r3⟩
            case measure => simp [intOf]; omega
          have hG0 : OC.label ⟨op, nn, m⟩ = 0 := by simp [OC.label]; omega
          have hRn : ren T ⟨op, nn, m⟩ = ⟨op, nn, m⟩ := by unfold ren; rw [if_neg h30, if_neg (by rw [hG0]; dsimp only; omega)]
          have HMX : Hid (mix (ren T) ops k = mix (ren T) ops (k + 1)) := HID hRn
          have hL : labPtr op gO (k * 3) = .pointer none := by
            unfold labPtr
            rw [if_neg (by unfold OC.kindN; omega), if_neg (by unfold OC.kindM; omega)]
          rw [hL] at HLO
          clear HS1 HS2 HST HID hnb hml hkl hlab h30 hG0 hRn hL
          go_wp2_with (go_at_call 64; refine (HLO.out _ (Below.refl _ _)).mono ?_; rintro e w6 ⟨rfl, hb6⟩; have HB6 := Lib.hid hb6; have g6 : gO < w6.heap.size := Nat.lt_of_lt_of_le gq hb6.size; clear hb6 d2 q0 q1 q2 f1 f2)
          go_roundw
          case rel => exact ⟨k + 1, by omega, by go_num, by rw [← HMX.out]; exact owns_keep' HQW.out HB6.out, (fun p x hp hne => ((HB6.out.cell (World.block_lt_of_cell? _ _ (HCL.out p x hp hne))).trans (HCL.out p x hp hne))), below_then HBQ.out HB6.out⟩
          case measure => simp [intOf]; omega
        · obtain rfl : ol' = k := by omega
          have hRe : R = ⟨name, data, ops.map (ren T), globals, procs, (n : Int)⟩ := by
            rw [← HR.out]
            show OC.Code.mk _ _ _ _ _ _ = _
            rw [HT0.out, hT.out]
            show OC.Code.mk name data (ops.map (ren T)) globals procs ((lbs ops).length : Int) = _
            rw [hn.out]
          subst hRe
          have hmix : mix (ren T) ops ol' = ops.map (ren T) := by rw [HO.out]; exact mix_all _ _
          rw [hmix] at hownq
          have s11 : w.heap.size + 1 < w1.heap.size := by have := HB01.out.size; simp at this; omega
          have hb5 := hbx.out
          have nh : some h ≠ (Value.slice oa' ol' oc').ownBlock := fun e => by have := (hneO.out h e.symm).2; omega
          clear d0 d1 d2 d3 d4 d5
          have c0 := hcell.out _ _ hb5.1 nh
          have c1 := hcell.out _ _ hb5.2.1 nh
          have c2 := hcell.out _ _ hb5.2.2.1 nh
          have c3 := hcell.out _ _ hb5.2.2.2.1 nh
          have c4 := hcell.out _ _ hb5.2.2.2.2.1 nh
          have c5 := hcell.out _ _ hb5.2.2.2.2.2 nh
          have ZB0 := BoxC.new (w.alloc (.cells #[.string ⟨name.toArray⟩, .slice da dl dc, .slice oa ol' oc, .slice ga gl gc, .int .i64 procs, .int .i64 labels] 26)) OC.cz none none none 0 0 0 0 0 0 26
          rw [show (w.alloc (.cells #[.string ⟨name.toArray⟩, .slice da dl dc, .slice oa ol' oc, .slice ga gl gc, .int .i64 procs, .int .i64 labels] 26)).heap.size = w.heap.size + 1 from by simp] at ZB0
          obtain ⟨e0, e1, e2, e3, e4, e5⟩ := (ZB0.keep HB01.out (by simp)).keep hblq s11
          have fz : ∀ o, wr.frozen? ⟨w.heap.size + 1, o, none⟩ = false := fun o => (hblq.frozen (p := ⟨w.heap.size + 1, o, none⟩) s11).trans ((HB01.out.frozen (p := ⟨w.heap.size + 1, o, none⟩) (by simp)).trans (by simp [go_sem]))
          have y0 := fz 0
          have y1 := fz 1
          have y2 := fz 2
          have y3 := fz 3
          have y4 := fz 4
          have y5 := fz 5
          have sh : h < wr.heap.size := World.block_lt_of_cell? _ _ c0
          have s1r : w.heap.size + 1 < wr.heap.size := World.block_lt_of_cell? _ _ e0
          have HCL := Lib.hid hcell.out
          have HQW := Lib.hid hownq
          have HBQ := Lib.hid hblq
          clear fz hownq hcell hblq ZB0 hb5 nh
          go_wp2
          obtain ⟨t0, t1, t2, t3, t4, t5⟩ := six_set (.string ⟨name.toArray⟩) (.slice da' dl' dc') (.slice oa' ol' oc') (.slice ga' gl' gc') (.int .i64 procs) (.int .i64 (n : Int)) e0 e1 e2 e3 e4 e5
          have HMZ := (Kb.set (g := w.heap.size + 1) (j := 5) (u := (.int .i64 (n : Int))) (Kb.set (g := w.heap.size + 1) (j := 4) (u := (.int .i64 procs)) (Kb.set (g := w.heap.size + 1) (j := 3) (u := (.slice ga' gl' gc')) (Kb.set (g := w.heap.size + 1) (j := 2) (u := (.slice oa' ol' oc')) (Kb.set (g := w.heap.size + 1) (j := 1) (u := (.slice da' dl' dc')) (Kb.set (base := w1.heap.size) (w := wr) (w' := wr) (g := w.heap.size + 1) (j := 0) (u := (.string ⟨name.toArray⟩)) ⟨Nat.le_refl _, fun _ _ _ => rfl⟩ s11) s11) s11) s11) s11) s11)
          have HLZ := (Below.setCell (Below.setCell (Below.setCell (Below.setCell (Below.setCell (Below.setCell (below_then HL1.out HBQ.out) (p := ⟨w.heap.size + 1, 0, none⟩) (Nat.le_succ _) (.string ⟨name.toArray⟩)) (p := ⟨w.heap.size + 1, 1, none⟩) (Nat.le_succ _) (.slice da' dl' dc')) (p := ⟨w.heap.size + 1, 2, none⟩) (Nat.le_succ _) (.slice oa' ol' oc')) (p := ⟨w.heap.size + 1, 3, none⟩) (Nat.le_succ _) (.slice ga' gl' gc')) (p := ⟨w.heap.size + 1, 4, none⟩) (Nat.le_succ _) (.int .i64 procs)) (p := ⟨w.heap.size + 1, 5, none⟩) (Nat.le_succ _) (.int .i64 (n : Int)))
          refine bodyPost_ret (v := .tuple #[.agg #[.string ⟨name.toArray⟩, .slice da' dl' dc', .slice oa' ol' oc', .slice ga' gl' gc', .int .i64 procs, .int .i64 (n : Int)], .int .i64 0]) (by simp [results, Tryd.results27, go_sem, t0, t1, t2, t3, t4, t5]) rfl ?_
          have hall : ∀ wz : World, (∀ p x, w.heap.size ≤ p.block → ((((((wr.setCell ⟨w.heap.size + 1, 0, none⟩ (.string ⟨name.toArray⟩)).setCell ⟨w.heap.size + 1, 1, none⟩ (.slice da' dl' dc')).setCell ⟨w.heap.size + 1, 2, none⟩ (.slice oa' ol' oc')).setCell ⟨w.heap.size + 1, 3, none⟩ (.slice ga' gl' gc')).setCell ⟨w.heap.size + 1, 4, none⟩ (.int .i64 procs)).setCell ⟨w.heap.size + 1, 5, none⟩ (.int .i64 (n : Int))).cell? p = some x → wz.cell? p = some x) → RdD wz (.slice da' dl' dc') data ∧ RdE wz (.slice ga' gl' gc') globals := fun wz hz => HA4.out wz (fun p x hbb hp hne => by
            have hx := HCL.out p x ((HBL.out.cell (World.block_lt_of_cell? _ _ hp)).trans hp) hne
            obtain ⟨pb, po, ps⟩ := p
            have hsp := World.cell?_spot hx
            dsimp only at hsp
            subst hsp
            have hne1 : pb ≠ w.heap.size + 1 := by dsimp only at hbb; omega
            exact hz _ x (by dsimp only at hbb ⊢; omega) ((set_other _ _ _ _ _ _ hne1).trans ((set_other _ _ _ _ _ _ hne1).trans ((set_other _ _ _ _ _ _ hne1).trans ((set_other _ _ _ _ _ _ hne1).trans ((set_other _ _ _ _ _ _ hne1).trans ((set_other _ _ _ _ _ _ hne1).trans hx)))))))
          have hop := owns_kb HQW.out HMZ
          exact ⟨⟨da', oa', ga', dl', dc', ol', oc', gl', gc', rfl, fun wz hz => ⟨(hall wz hz).1, RdO.kp hop (by omega) (fun p x hb hx => hz p x (by omega) hx), (hall wz hz).2, HC.out.name⟩⟩, HLZ⟩
end Go.Proofs.YthlakfgpmggceaaDoor
