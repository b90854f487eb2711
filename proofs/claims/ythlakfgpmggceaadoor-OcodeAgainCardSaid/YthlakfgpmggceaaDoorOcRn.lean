/- Numbering labels anew, in the document's words. -/
import Derived.Test.YthlakfgpmggceaaDoorOcCp
import Derived.Test.YthlakfgpmggceaaDoorOcAg
import Derived.Deep.RegionHeld3
namespace Go.Proofs.YthlakfgpmggceaaDoor
open Go.RowKit
set_option linter.unusedVariables false
set_option linter.unusedSimpArgs false
/-- the code with its labels numbered anew, if it is valid -/
def renA (c : OC.Code) : OC.Code := if checkE c = 0 then renum c else OC.cz
def RenR (c : OC.Code) (base : Nat) (e : Ending) (w' : World) : Prop :=
  ∃ da oa ga dl dc ol oc gl gc, e = .returned (.tuple #[codeV (renA c) da oa ga dl dc ol oc gl gc, .int .i64 (checkE c : Nat)]) ∧ ∀ wz : World, (∀ p x, base ≤ p.block → w'.cell? p = some x → wz.cell? p = some x) → CodeIn wz (renA c) da oa ga dl dc ol oc gl gc
theorem lbs_take_succ {l : List OC.Op} {k : Nat} (h : k < l.length) : lbs (l.drop k) = if (l.getD k OC.oz).op = 19 then (l.getD k OC.oz).n :: lbs (l.drop (k + 1)) else lbs (l.drop (k + 1)) := by
  rw [dropAt (d := OC.oz) h, lbs]
theorem toG_drop {l : List OC.Op} {k : Nat} (h : k < l.length) (n : Int) (t : List Int) : toG (l.drop k) n t = if (l.getD k OC.oz).op = 19 then toG (l.drop (k + 1)) (n + 1) (t.set (l.getD k OC.oz).n.toNat (n + 1)) else toG (l.drop (k + 1)) n t := by
  rw [dropAt (d := OC.oz) h, toG]
theorem opCells_set1 : ∀ (l : List OC.Op) (i : Nat) (v : Int), i < l.length → (opCells l).set (i * 3 + 1) (.int .i64 v) = opCells (l.set i ⟨(l.getD i OC.oz).op, v, (l.getD i OC.oz).m⟩)
  | [], i, v, h => by simp at h
  | o :: r, 0, v, _ => rfl
  | o :: r, i + 1, v, h => by
    have e : (i + 1) * 3 + 1 = i * 3 + 1 + 1 + 1 + 1 := by omega
    rw [e]
    simp only [opCells, List.set_cons_succ, List.getD_cons_succ]
    rw [opCells_set1 r i v (by simpa using h)]
theorem opCells_set2 : ∀ (l : List OC.Op) (i : Nat) (v : Int), i < l.length → (opCells l).set (i * 3 + 2) (.int .i64 v) = opCells (l.set i ⟨(l.getD i OC.oz).op, (l.getD i OC.oz).n, v⟩)
  | [], i, v, h => by simp at h
  | o :: r, 0, v, _ => rfl
  | o :: r, i + 1, v, h => by
    have e : (i + 1) * 3 + 2 = i * 3 + 2 + 1 + 1 + 1 := by omega
    rw [e]
    simp only [opCells, List.set_cons_succ, List.getD_cons_succ]
    rw [opCells_set2 r i v (by simpa using h)]
theorem set_mid {α : Type} : ∀ (a : List α) (x y : α) (b : List α), (a ++ x :: b).set a.length y = a ++ y :: b
  | [], _, _, _ => rfl
  | z :: a, x, y, b => by rw [List.cons_append, List.length_cons, List.set_cons_succ, set_mid a x y b, List.cons_append]
theorem getD_mid {α : Type} {d : α} : ∀ (a : List α) (x : α) (b : List α), (a ++ x :: b).getD a.length d = x
  | [], _, _ => rfl
  | z :: a, x, b => by rw [List.cons_append, List.length_cons, List.getD_cons_succ, getD_mid a x b]
/-- the list behind k rounds: what was gone over, and the rest -/
def mix (f : OC.Op → OC.Op) (l : List OC.Op) (k : Nat) : List OC.Op := (l.take k).map f ++ l.drop k
theorem mix_len (f : OC.Op → OC.Op) (l : List OC.Op) (k : Nat) (h : k ≤ l.length) : (mix f l k).length = l.length := by simp [mix]; omega
theorem mix_at {f : OC.Op → OC.Op} {l : List OC.Op} {k : Nat} (h : k < l.length) : (mix f l k).getD k OC.oz = l.getD k OC.oz := by
  have e := getD_mid (d := OC.oz) ((l.take k).map f) (l.getD k OC.oz) (l.drop (k + 1))
  have hl : ((l.take k).map f).length = k := by simp; omega
  rw [hl] at e
  unfold mix
  rw [dropAt (d := OC.oz) h]; exact e
theorem mix_set {f : OC.Op → OC.Op} {l : List OC.Op} {k : Nat} (h : k < l.length) : (mix f l k).set k (f (l.getD k OC.oz)) = mix f l (k + 1) := by
  have e := set_mid ((l.take k).map f) (l.getD k OC.oz) (f (l.getD k OC.oz)) (l.drop (k + 1))
  have hl : ((l.take k).map f).length = k := by simp; omega
  rw [hl] at e
  unfold mix
  rw [dropAt (d := OC.oz) h, e, List.take_succ_eq_append_getElem h, List.map_append, getD_at h]; simp
theorem mix_id {f : OC.Op → OC.Op} {l : List OC.Op} {k : Nat} (h : k < l.length) (hf : f (l.getD k OC.oz) = l.getD k OC.oz) : mix f l k = mix f l (k + 1) := by
  rw [← mix_set h, hf]
  have hk : k < (mix f l k).length := by rw [mix_len f l k (by omega)]; exact h
  have e := mix_at (f := f) h
  rw [getD_at hk] at e
  rw [← e]; simp
theorem mix_all (f : OC.Op → OC.Op) (l : List OC.Op) : mix f l l.length = l.map f := by simp [mix]
set_option maxRecDepth 100000 in
set_option maxHeartbeats 16000000 in
theorem RenumberR_c (c : OC.Code) (da oa ga : Option Addr) (dl dc ol oc gl gc : Nat) (w : World) (hc : CodeIn w c da oa ga dl dc ol oc gl gc) (hs : Small c) :
    Calls Tryd.prog 28 #[codeV c da oa ga dl dc ol oc gl gc] w fun e w' => RenR c w.heap.size e w' ∧ Below w.heap.size w w' := by
  obtain ⟨hol, hoc, _⟩ := hc.ops.len
  have HC := Lib.hid hc
  have HO := Lib.hid hol
  have hol2 := hs.ops
  rw [← hol] at hol2
  have HS := Lib.hid hs
  obtain ⟨ii, hi, hz0, hz1, hz2⟩ := info_parts int_info
  have HI := Lib.hid hi
  have HZ0 := Lib.hid hz0
  have HZ1 := Lib.hid hz1
  have HZ2 := Lib.hid hz2
  clear hi hz0 hz1 hz2
  obtain ⟨E, hE⟩ : ∃ E, checkE c = E := ⟨_, rfl⟩
  have HCK : Hid (∀ W, CodeIn W c da oa ga dl dc ol oc gl gc → Calls Tryd.prog 16 #[codeV c da oa ga dl dc ol oc gl gc] W fun e w' => e = .returned (.int .i64 (E : Int)) ∧ Below W.heap.size W w') := fun W hW => by have h := CheckR_c c da oa ga dl dc ol oc gl gc W hW hs; rwa [hE] at h
  unfold RenR
  rw [hE]
  by_cases hE0 : E = 0
  case neg =>
    have hX : renA c = OC.cz := by unfold renA; rw [hE, if_neg hE0]
    rw [hX]
    have ee : ((E : Int) != 0) = true := by simp; omega
    obtain ⟨name, data, ops, globals, procs, labels⟩ := c
    clear hE hE0 hs hc hol hX HS
    go_enter Tryd.func28, Tryd.ntmps28
    go_wp2_with (go_at_call 16; refine (HCK.out _ (HC.out.keep (below_then (below_alloc _ _) (below_alloc _ _)))).mono ?_; rintro e w1 ⟨rfl, hb1⟩; obtain ⟨hcc1, hff1⟩ := bcell hb1; have z1 := hb1.size; have zw1 : w.heap.size + 1 < w1.heap.size := (by simp at z1; omega))
    -- BEGIN
    have HZ := (BoxC.new (w.alloc (.cells #[.string ⟨name.toArray⟩, .slice da dl dc, .slice oa ol oc, .slice ga gl gc, .int .i64 procs, .int .i64 labels] 26)) OC.cz none none none 0 0 0 0 0 0 26).keep hb1 (by simp)
    rw [show (w.alloc (.cells #[.string ⟨name.toArray⟩, .slice da dl dc, .slice oa ol oc, .slice ga gl gc, .int .i64 procs, .int .i64 labels] 26)).heap.size = w.heap.size + 1 from by simp] at HZ
    obtain ⟨e0, e1, e2, e3, e4, e5⟩ := HZ
    obtain ⟨t0, t1, t2, t3, t4, t5⟩ := six_set (.string ⟨#[]⟩) (.slice none 0 0) (.slice none 0 0) (.slice none 0 0) (.int .i64 0) (.int .i64 0) e0 e1 e2 e3 e4 e5
    have HLZ := (Below.setCell (Below.setCell (Below.setCell (Below.setCell (Below.setCell (Below.setCell (below_then (below_then (below_alloc w _) (below_alloc _ _)) hb1) (p := ⟨w.heap.size + 1, 0, none⟩) (Nat.le_succ _) (.string ⟨#[]⟩)) (p := ⟨w.heap.size + 1, 1, none⟩) (Nat.le_succ _) (.slice none 0 0)) (p := ⟨w.heap.size + 1, 2, none⟩) (Nat.le_succ _) (.slice none 0 0)) (p := ⟨w.heap.size + 1, 3, none⟩) (Nat.le_succ _) (.slice none 0 0)) (p := ⟨w.heap.size + 1, 4, none⟩) (Nat.le_succ _) (.int .i64 0)) (p := ⟨w.heap.size + 1, 5, none⟩) (Nat.le_succ _) (.int .i64 0))
    refine bodyPost_ret (v := .tuple #[.agg #[.string ⟨#[]⟩, .slice none 0 0, .slice none 0 0, .slice none 0 0, .int .i64 0, .int .i64 0], .int .i64 (E : Int)]) (by simp [results, Tryd.results28, go_sem, t0, t1, t2, t3, t4, t5]) rfl ?_
    exact ⟨⟨none, none, none, 0, 0, 0, 0, 0, 0, rfl, fun wz _ => ⟨RdP.nil _, RdP.nil _, RdP.nil _, by decide⟩⟩, HLZ⟩
  subst hE0
  have hX : renA c = renum c := by unfold renA; rw [hE, if_pos rfl]
  rw [hX]
  obtain ⟨hnum, hord, hl0, hl1, _, _, _⟩ := checkE_ok hE
  have HRO := Lib.hid (renum_ok hE)
  have HN := Lib.hid hnum
  obtain ⟨lq, hlq⟩ : ∃ lq : Nat, c.labels + 1 = (lq : Int) := ⟨(c.labels + 1).toNat, by omega⟩
  have hlq1 : lq ≤ 20001 := by omega
  have HT0 : Hid (toC c = toG c.ops 0 (List.replicate lq 0)) := by show _ = _; unfold toC; rw [hlq, Int.toNat_natCast]
  obtain ⟨R, hR⟩ : ∃ R, renum c = R := ⟨_, rfl⟩
  rw [hR]
  have HR := Lib.hid hR
  obtain ⟨name, data, ops, globals, procs, labels⟩ := c
  dsimp only at *
  have HLQ := Lib.hid hlq
  clear hE hs hc hol hX hnum hord hR
  go_enter Tryd.func28, Tryd.ntmps28
  go_wp2_with (first
    | (go_at_call 16; refine (HCK.out _ (HC.out.keep (below_then (below_alloc _ _) (below_alloc _ _)))).mono ?_; rintro e w1 ⟨rfl, hb1⟩; have HB1 := Lib.hid (((BoxC.new w ⟨name, data, ops, globals, procs, labels⟩ da oa ga dl dc ol oc gl gc 26).keep (below_alloc _ _) (by simp)).keep hb1 (by first | (simp; done) | (simp; omega))); have HL1 := Lib.hid (below_then (below_then (below_alloc w _) (below_alloc _ _)) hb1); obtain ⟨c0, c1, c2, c3, c4, c5⟩ := HB1.out)
    | (at_make; refine wpList_make_full _ rfl _ _ 34 rfl 0 3 ii (.int .i64 0) 1 Tryd.underlying34 HI.out HZ0.out HZ1.out .i64 .i64 _ _ lq rfl rfl rfl rfl (by rw [HZ2.out]; omega) (by unfold maxLen; omega) (Nat.zero_le _) ?_; intro w2 hown2 hg2))
  have hb12 : Below w1.heap.size w1 w2 := below_grown hg2
  have s1 : w.heap.size < w1.heap.size := HB1.out.lt
  have s11 : w.heap.size + 1 < w1.heap.size := by have := hb1.size; simp at this; omega
  have HB12 := Lib.hid hb12
  have HB01 := Lib.hid hb1
  obtain ⟨g, hg⟩ : ∃ g, w1.heap.size = g := ⟨_, rfl⟩
  have HG := Lib.hid hg
  rw [hg] at hown2 ⊢
  have HOW : Hid (w2.ownsRow 0 3 1 (.slice (some ⟨g, 0, none⟩) lq lq) lq ((List.replicate lq (0 : Int)).map (.int .i64))) := by show World.ownsRow _ _ _ _ _ _ _; rw [← zeros_eq]; exact hown2
  have s1g : w.heap.size < g := by omega
  have s11g : w.heap.size + 1 < g := by omega
  clear hb1 hg2 hown2 c0 c1 c2 c3 c4 c5 hb12 hg s1 s11
  go_wp2
  go_loopw [6, 7] (fun nv i wr => ∃ (k n : Nat) (T : List Int), k ≤ ol ∧ i = .int .i64 k ∧ nv = .int .i64 (n : Int) ∧ n ≤ k ∧ T.length = lq ∧ wr.ownsRow 0 3 1 (.slice (some ⟨g, 0, none⟩) lq lq) lq (T.map (.int .i64)) ∧ Hid (toG ops 0 (List.replicate lq 0) = toG (ops.drop k) (n : Int) T) ∧ Hid ((lbs ops).length = n + (lbs (ops.drop k)).length) ∧ Below w1.heap.size w1 wr) (fun _ i _ => ol - (intOf i).toNat)
  case atStart => exact ⟨0, 0, List.replicate lq 0, Nat.zero_le _, rfl, rfl, Nat.le_refl _, by simp, HOW.out, (rfl : toG ops 0 (List.replicate lq 0) = _), (by simp : (lbs ops).length = 0 + (lbs (ops.drop 0)).length), HB12.out⟩
  case round =>
    clear HOW HB12
    obtain ⟨k, n, T, hk, rfl, rfl, hnk, hTl, hown, hq, hcnt, hbl⟩ := hrel
    have HOWN := Lib.hid hown
    have HTL := Lib.hid hTl
    have HBOX := Lib.hid (HB1.out.keep hbl (by rw [HG.out]; exact s1g))
    have HBL := Lib.hid hbl
    have hgz : g < wr.heap.size := (hown.lt _ rfl).2
    have hwz : w.heap.size < wr.heap.size := by omega
    obtain ⟨c0, c1, c2, c3, c4, c5⟩ := HBOX.out
    by_cases hlt : k < ol
    · obtain ⟨hx1, b, off, rfl, hat⟩ := HC.out.ops.get hlt
      clear hx1
      have hbw : b < w.heap.size := World.block_lt_of_cell? _ _ hat.1
      obtain ⟨h0, h1, h2⟩ := hat.keep (below_thenB' HL1.out hbl (by rw [HG.out]; omega))
      have hkl : k < ops.length := by rw [← HO.out]; exact hlt
      have hto := toG_drop hkl (n : Int) T
      have hlb := lbs_take_succ hkl
      have hnb := HN.out _ (getD_map_range ops OC.oz hkl)
      generalize ops.getD k OC.oz = x at *
      obtain ⟨op, nn, m⟩ := x
      dsimp only at *
      have k1 : (k : Int) < (ol : Int) := by omega
      have hkb : k ≤ 40100 := by omega
      clear hat hbl hown hTl
      by_cases h19 : op = 19
      · subst h19
        rw [if_pos rfl] at hto hlb
        have hnn : 1 ≤ nn ∧ nn ≤ labels := by simp [OC.numB, OC.inB] at hnb; omega
        obtain ⟨j, hj⟩ : ∃ j : Nat, nn = (j : Int) := ⟨nn.toNat, by omega⟩
        subst hj
        rw [Int.toNat_natCast] at hto
        have hjl : j < lq := by have := HLQ.out; omega
        have j1 : (j : Int) < (lq : Int) := by omega
        have hcell : wr.cell? ⟨g, j, none⟩ = some (.int .i64 (T.getD j 0)) := by rw [HOWN.out.cellAt j (by omega)]; have := HTL.out; simp [this, hjl]
        have hfz : wr.frozen? ⟨g, j, none⟩ = false := HOWN.out.frozenAt j
        have HQ2 : Hid (toG ops 0 (List.replicate lq 0) = toG (ops.drop (k + 1)) ((n + 1 : Nat) : Int) (T.set j ((n : Int) + 1))) := by show _ = _; rw [hq.out, hto]; rfl
        have HC2 : Hid ((lbs ops).length = (n + 1) + (lbs (ops.drop (k + 1))).length) := by show _ = _; rw [hcnt.out, hlb, List.length_cons]; omega
        have nb : n ≤ 40100 := by omega
        clear hto hlb hnb hq hcnt hnn
        go_wp2
        go_roundw
        case rel => exact ⟨k + 1, n + 1, T.set j ((n : Int) + 1), by omega, by go_num, by go_num, by omega, by rw [List.length_set]; exact HTL.out, by rw [List.map_set]; exact (HOWN.out.stored j (.int .i64 ((n : Int) + 1))).1, HQ2.out, HC2.out, HBL.out.setCell (p := ⟨g, j, none⟩) (by show w1.heap.size ≤ g; rw [HG.out]; exact Nat.le_refl _) _⟩
        case measure => simp [intOf]; omega
      · rw [if_neg h19] at hto hlb
        have e19 : (op == 19) = false := by simpa using h19
        have HQ2 : Hid (toG ops 0 (List.replicate lq 0) = toG (ops.drop (k + 1)) (n : Int) T) := by show _ = _; rw [hq.out, hto]
        have HC2 : Hid ((lbs ops).length = n + (lbs (ops.drop (k + 1))).length) := by show _ = _; rw [hcnt.out, hlb]
        clear hto hlb hnb hq hcnt h19
        go_wp2
        go_roundw
        case rel => exact ⟨k + 1, n, T, by omega, by go_num, rfl, by omega, HTL.out, HOWN.out, HQ2.out, HC2.out, HBL.out⟩
        case measure => simp [intOf]; omega
    · obtain rfl : ol = k := by omega
      obtain ⟨WR, hWR⟩ : ∃ W, W = wr := ⟨_, rfl⟩
      subst hWR
      have hT : Hid (toG ops 0 (List.replicate lq 0) = T) := by
        show _ = _
        rw [hq.out, List.drop_eq_nil_of_le (by rw [← HO.out]; exact Nat.le_refl _)]; rfl
      have hn : Hid ((lbs ops).length = n) := by
        show _ = _
        rw [hcnt.out, List.drop_eq_nil_of_le (by rw [← HO.out]; exact Nat.le_refl _)]; rfl
      have HCP : Hid (∀ W, CodeIn W ⟨name, data, ops, globals, procs, labels⟩ da oa ga dl dc ol oc gl gc → Calls Tryd.prog 65 #[codeV ⟨name, data, ops, globals, procs, labels⟩ da oa ga dl dc ol oc gl gc] W fun e w' => CopyR ⟨name, data, ops, globals, procs, labels⟩ W.heap.size e w' ∧ Below W.heap.size W w') := fun W hW => CopyCode_c _ da oa ga dl dc ol oc gl gc W hW HS.out.ops HS.out.globals (by have := HS.out.weight; have := wsum_len data; dsimp only at *; omega) (fun d hd => by have := HS.out.weight; have := wsum_at hd; dsimp only at *; omega)
      have hblw : Below w.heap.size w WR := below_thenB' HL1.out hbl (by rw [HG.out]; omega)
      have HBW := Lib.hid hblw
      clear hq hcnt hown hTl hblw hbl
      go_wp2_with (go_at_call 65; refine (HCP.out _ (HC.out.keep HBW.out)).mono ?_; rintro e w4 ⟨⟨da', oa', ga', dl', dc', ol', oc', gl', gc', rfl, hin4, hown4, hap4⟩, hb4⟩)
      have hl4 : ol' = ol := by rw [hin4.ops.len.1]; exact HO.out.symm
      subst hl4
      have hdl4 := hin4.name
      rw [show (⟨name, data, ops, globals, procs, labels⟩ : OC.Code).ops.length = ol' from HO.out.symm] at hown4
      generalize hW5 : w4.alloc (.cells #[.string ⟨name.toArray⟩, .slice da' dl' dc', .slice oa' ol' oc', .slice ga' gl' gc', .int .i64 procs, .int .i64 (n : Int)] 26) = w5
      obtain ⟨h, hh⟩ : ∃ h, w4.heap.size = h := ⟨_, rfl⟩
      have HO5 : Hid (w5.ownsRow WR.heap.size 50 3 (.slice oa' ol' oc') ol' (opCells ops)) := by rw [← hW5]; exact hown4.alloc _
      have HB5 : Hid (BoxC w5 h ⟨name, data, ops, globals, procs, (n : Int)⟩ da' oa' ga' dl' dc' ol' oc' gl' gc') := by rw [← hW5, ← hh]; exact BoxC.new w4 ⟨name, data, ops, globals, procs, (n : Int)⟩ da' oa' ga' dl' dc' ol' oc' gl' gc' _
      have HA5 : Hid (∀ wz : World, (∀ p x, WR.heap.size ≤ p.block → w5.cell? p = some x → some p.block ≠ (Value.slice oa' ol' oc').ownBlock → wz.cell? p = some x) → RdD wz (.slice da' dl' dc') data ∧ RdE wz (.slice ga' gl' gc') globals) := fun wz hz => hap4 wz (fun p x hbb hp hne => hz p x hbb (by rw [← hW5]; exact ((below_alloc w4 _).cell (World.block_lt_of_cell? _ _ hp)).trans hp) hne)
      have HBL5 : Hid (Below WR.heap.size WR w5) := by rw [← hW5]; exact below_then hb4 (below_alloc _ _)
      have hneO : Hid (∀ B, (Value.slice oa' ol' oc').ownBlock = some B → WR.heap.size ≤ B ∧ B < h) := fun B hB => by have := hown4.lt B hB; rw [hh] at this; exact this
      have hh5 : h < w5.heap.size := HB5.out.lt
      rw [hh]
      clear hW5 hin4 hown4 hap4 hb4 hh c0 c1 c2 c3 c4 c5
      go_loopw [9, 10] (fun i l wr => ∃ (k : Nat), k ≤ ol' ∧ i = .int .i64 k ∧ wr.ownsRow WR.heap.size 50 3 (.slice oa' ol' oc') ol' (opCells (mix (ren T) ops k)) ∧ Hid (∀ p x, w5.cell? p = some x → some p.block ≠ (Value.slice oa' ol' oc').ownBlock → wr.cell? p = some x) ∧ Below WR.heap.size WR wr) (fun i _ _ => ol' - (intOf i).toNat)
      case atStart => exact ⟨0, Nat.zero_le _, rfl, by rw [show mix (ren T) ops 0 = ops from by simp [mix]]; exact HO5.out, (fun p x h _ => h), HBL5.out⟩
      case round =>
        obtain ⟨k, hk, rfl, hownq, hcell, hblq⟩ := hrel
        by_cases hlt : k < ol'
        · obtain ⟨gO, cO, hvO⟩ := owns_pos hownq (by omega)
          simp only [Value.slice.injEq, true_and] at hvO
          obtain ⟨rfl, rfl⟩ := hvO
          have hgO := hneO.out gO rfl
          have hb5 := HB5.out
          have c0 := hcell.out _ _ hb5.1 (by simp [Value.ownBlock]; omega)
          have c1 := hcell.out _ _ hb5.2.1 (by simp [Value.ownBlock]; omega)
          have c2 := hcell.out _ _ hb5.2.2.1 (by simp [Value.ownBlock]; omega)
          have c3 := hcell.out _ _ hb5.2.2.2.1 (by simp [Value.ownBlock]; omega)
          have c4 := hcell.out _ _ hb5.2.2.2.2.1 (by simp [Value.ownBlock]; omega)
          have c5 := hcell.out _ _ hb5.2.2.2.2.2 (by simp [Value.ownBlock]; omega)
          have hkl : k < ops.length := by rw [← HO.out]; exact hlt
          have hml : k < (mix (ren T) ops k).length := by rw [mix_len _ _ _ (by omega)]; exact hkl
          obtain ⟨r0, r1, r2⟩ := opCells_at (mix (ren T) ops k) k hml
          rw [mix_at hkl] at r0 r1 r2
          have q0 := (hownq.cellAt (k * 3) (by omega)).trans r0
          have q1 := (hownq.cellAt (k * 3 + 1) (by omega)).trans r1
          have q2 := (hownq.cellAt (k * 3 + 2) (by omega)).trans r2
          have fq := fun j => hownq.frozenAt j
          have hnb := HN.out _ (getD_map_range ops OC.oz hkl)
          have HST := mix_set (f := ren T) hkl
          have HS1 := opCells_set1 (mix (ren T) ops k) k
          have HS2 := opCells_set2 (mix (ren T) ops k) k
          rw [mix_at hkl] at HS1 HS2
          have HID := mix_id (f := ren T) hkl
          generalize ops.getD k OC.oz = x at *
          obtain ⟨op, nn, m⟩ := x
          dsimp only at q0 q1 q2 HS1 HS2 hnb r0 r1 r2
          have k1 : (k : Int) < (ol' : Int) := by omega
          have hkb : k ≤ 40100 := by omega
          have HCL := Lib.hid hcell.out
          have HQW := Lib.hid hownq
          have HBQ := Lib.hid hblq
          have sq : w.heap.size < wr.heap.size := by have := hblq.size; omega
          have gq : gO < wr.heap.size := (hownq.lt gO rfl).2
          have f1 := fq (k * 3 + 1)
          have f2 := fq (k * 3 + 2)
          clear fq r0 r1 r2 hownq hcell hb5
          have tabq : Hid (∀ j, j < lq → wr.cell? ⟨g, j, none⟩ = some (.int .i64 (T.getD j 0))) := fun j hj => (HBQ.out.cell (p := ⟨g, j, none⟩) hgz).trans (by rw [HOWN.out.cellAt j (by omega)]; have := HTL.out; simp [this, hj])
          have REL : Hid (∀ (w6 w7 : World) (j : Nat) (v : Value) (L : List Value), Below wr.heap.size wr w6 → w7 = (w6.setCell ⟨gO, j, none⟩ v) → (opCells (mix (ren T) ops k)).set j v = opCells (mix (ren T) ops (k + 1)) → w7.ownsRow WR.heap.size 50 3 (.slice (some ⟨gO, 0, none⟩) ol' oc') ol' (opCells (mix (ren T) ops (k + 1))) ∧ Hid (∀ p x, w5.cell? p = some x → some p.block ≠ (Value.slice (some ⟨gO, 0, none⟩) ol' oc').ownBlock → w7.cell? p = some x) ∧ Below WR.heap.size WR w7) := by
            intro w6 w7 j v L hb6 e hset
            subst e
            have hq6 := owns_keep' HQW.out hb6
            refine ⟨by rw [← hset]; exact (hq6.stored j v).1, fun p x hp hne => ?_, ?_⟩
            · have h1 := HCL.out p x hp hne
              exact (World.cell?_setCell_other _ _ _ _ (fun e => hne (by rw [← e]; rfl))).trans ((hb6.cell (World.block_lt_of_cell? _ _ h1)).trans h1)
            · exact (HBQ.out.trans (hb6.mono HBQ.out.size)).setCell (p := ⟨gO, j, none⟩) (by show WR.heap.size ≤ gO; exact hgO.1) v
          by_cases h30 : op = 30
          · subst h30
            have hm : 1 ≤ m ∧ m ≤ labels := by simp [OC.numB, OC.inB] at hnb; omega
            obtain ⟨j, hj⟩ : ∃ j : Nat, m = (j : Int) := ⟨m.toNat, by omega⟩
            subst hj
            have hjl : j < lq := by have := HLQ.out; omega
            have j1 : (j : Int) < (lq : Int) := by omega
            have HLA : Hid (∀ W, Calls Tryd.prog 36 #[opVal ⟨30, nn, (j : Int)⟩] W fun e w' => e = .returned (.int .i64 (j : Int)) ∧ Below W.heap.size W w') := fun W => by have h := labelR_c ⟨30, nn, (j : Int)⟩ W; rwa [show OC.label ⟨30, nn, (j : Int)⟩ = (j : Int) by simp [OC.label]] at h
            have tq := tabq.out j hjl
            have HS : Hid ((opCells (mix (ren T) ops k)).set (k * 3 + 2) (.int .i64 (T.getD j 0)) = opCells (mix (ren T) ops (k + 1))) := by show _ = _; rw [HS2 (T.getD j 0) hml, ← HST, ren_30, Int.toNat_natCast]
            obtain ⟨z, hz⟩ : ∃ z, T.getD j 0 = z := ⟨_, rfl⟩
            rw [hz] at tq HS
            clear HS1 HS2 HST HID hz hm hnb hml hkl
            go_wp2_with (go_at_call 36; refine (HLA.out _).mono ?_; rintro e w6 ⟨rfl, hb6⟩; have HB6 := Lib.hid hb6; have y2 := (hb6.cell (World.block_lt_of_cell? _ _ c2)).trans c2; have y0 := (hb6.cell (World.block_lt_of_cell? _ _ q0)).trans q0; have y1 := (hb6.cell (World.block_lt_of_cell? _ _ q1)).trans q1; have y3 := (hb6.cell (World.block_lt_of_cell? _ _ q2)).trans q2; have yt := (hb6.cell (World.block_lt_of_cell? _ _ tq)).trans tq; have yf := (hb6.frozen (p := ⟨gO, k * 3 + 2, none⟩) (by show gO < wr.heap.size; exact gq)).trans f2; have g6 : gO < w6.heap.size := Nat.lt_of_lt_of_le gq hb6.size; clear hb6 c0 c1 c2 c3 c4 c5 q0 q1 q2 tq f1 f2)
            go_region
            go_wp2
            go_roundw
            case rel =>
              obtain ⟨r1, r2, r3⟩ := REL.out w6 _ (k * 3 + 2) (.int .i64 z) [] HB6.out rfl HS.out
              exact ⟨k + 1, by omega, by go_num, r1, r2, r3.drew⟩
            case measure => simp [intOf]; omega
          have e30 : (op == 30) = false := by simpa using h30
          by_cases hlab : op = 20 ∨ op = 21 ∨ op = 22 ∨ op = 27 ∨ op = 29
          · have hnn : 1 ≤ nn ∧ nn ≤ labels := by rcases hlab with rfl | rfl | rfl | rfl | rfl <;> (simp [OC.numB, OC.inB] at hnb; omega)
            obtain ⟨j, hj⟩ : ∃ j : Nat, nn = (j : Int) := ⟨nn.toNat, by omega⟩
            subst hj
            have hjl : j < lq := by have := HLQ.out; omega
            have j1 : (j : Int) < (lq : Int) := by omega
            have j0 : (0 : Int) < (j : Int) := by omega
            have HLA : Hid (∀ W, Calls Tryd.prog 36 #[opVal ⟨op, (j : Int), m⟩] W fun e w' => e = .returned (.int .i64 (j : Int)) ∧ Below W.heap.size W w') := fun W => by have h := labelR_c ⟨op, (j : Int), m⟩ W; rwa [show OC.label ⟨op, (j : Int), m⟩ = (j : Int) by rcases hlab with rfl | rfl | rfl | rfl | rfl <;> simp [OC.label]] at h
            have tq := tabq.out j hjl
            have HS : Hid ((opCells (mix (ren T) ops k)).set (k * 3 + 1) (.int .i64 (T.getD j 0)) = opCells (mix (ren T) ops (k + 1))) := by show _ = _; rw [HS1 (T.getD j 0) hml, ← HST, ren_lab hlab (by omega), Int.toNat_natCast]
            obtain ⟨z, hz⟩ : ∃ z, T.getD j 0 = z := ⟨_, rfl⟩
            rw [hz] at tq HS
            clear HS1 HS2 HST HID hz hnn hnb hml hkl hlab h30
            go_wp2_with (go_at_call 36; refine (HLA.out _).mono ?_; rintro e w6 ⟨rfl, hb6⟩; have HB6 := Lib.hid hb6; have y2 := (hb6.cell (World.block_lt_of_cell? _ _ c2)).trans c2; have y0 := (hb6.cell (World.block_lt_of_cell? _ _ q0)).trans q0; have y1 := (hb6.cell (World.block_lt_of_cell? _ _ q1)).trans q1; have y3 := (hb6.cell (World.block_lt_of_cell? _ _ q2)).trans q2; have yt := (hb6.cell (World.block_lt_of_cell? _ _ tq)).trans tq; clear tq; have yf := (hb6.frozen (p := ⟨gO, k * 3 + 1, none⟩) (by show gO < wr.heap.size; exact gq)).trans f1; have g6 : gO < w6.heap.size := Nat.lt_of_lt_of_le gq hb6.size; clear hb6 c0 c1 c2 c3 c4 c5 q0 q1 q2 f1 f2)
            go_region
            go_wp2
            go_roundw
            case rel =>
              obtain ⟨r1, r2, r3⟩ := REL.out w6 _ (k * 3 + 1) (.int .i64 z) [] HB6.out rfl HS.out
              exact ⟨k + 1, by omega, by go_num, r1, r2, r3.drew⟩
            case measure => simp [intOf]; omega
          by_cases h19 : op = 19
          · subst h19
            have hnn : 1 ≤ nn ∧ nn ≤ labels := by simp [OC.numB, OC.inB] at hnb; omega
            obtain ⟨j, hj⟩ : ∃ j : Nat, nn = (j : Int) := ⟨nn.toNat, by omega⟩
            subst hj
            have hjl : j < lq := by have := HLQ.out; omega
            have j1 : (j : Int) < (lq : Int) := by omega
            have hlab2 := hlab
            have HLA : Hid (∀ W, Calls Tryd.prog 36 #[opVal ⟨19, (j : Int), m⟩] W fun e w' => e = .returned (.int .i64 0) ∧ Below W.heap.size W w') := fun W => by have h := labelR_c ⟨19, (j : Int), m⟩ W; rwa [show OC.label ⟨19, (j : Int), m⟩ = 0 by simp [OC.label]] at h
            have tq := tabq.out j hjl
            have HS : Hid ((opCells (mix (ren T) ops k)).set (k * 3 + 1) (.int .i64 (T.getD j 0)) = opCells (mix (ren T) ops (k + 1))) := by show _ = _; rw [HS1 (T.getD j 0) hml, ← HST, ren_19, Int.toNat_natCast]
            obtain ⟨z, hz⟩ : ∃ z, T.getD j 0 = z := ⟨_, rfl⟩
            rw [hz] at tq HS
            clear HS1 HS2 HST HID hz hnn hnb hml hkl hlab hlab2 h30 e30
            go_wp2_with (go_at_call 36; refine (HLA.out _).mono ?_; rintro e w6 ⟨rfl, hb6⟩; have HB6 := Lib.hid hb6; have y2 := (hb6.cell (World.block_lt_of_cell? _ _ c2)).trans c2; have y0 := (hb6.cell (World.block_lt_of_cell? _ _ q0)).trans q0; have y1 := (hb6.cell (World.block_lt_of_cell? _ _ q1)).trans q1; have y3 := (hb6.cell (World.block_lt_of_cell? _ _ q2)).trans q2; have yt := (hb6.cell (World.block_lt_of_cell? _ _ tq)).trans tq; clear tq; have yf := (hb6.frozen (p := ⟨gO, k * 3 + 1, none⟩) (by show gO < wr.heap.size; exact gq)).trans f1; have g6 : gO < w6.heap.size := Nat.lt_of_lt_of_le gq hb6.size; clear hb6 c0 c1 c2 c3 c4 c5 q0 q1 q2 f1 f2)
            go_region
            go_wp2
            go_roundw
            case rel =>
              obtain ⟨r1, r2, r3⟩ := REL.out w6 _ (k * 3 + 1) (.int .i64 z) [] HB6.out rfl HS.out
              exact ⟨k + 1, by omega, by go_num, r1, r2, r3.drew⟩
            case measure => simp [intOf]; omega
          have e19 : (op == 19) = false := by simpa using h19
          have hG0 : OC.label ⟨op, nn, m⟩ = 0 := by simp [OC.label]; omega
          have hRn : ren T ⟨op, nn, m⟩ = ⟨op, nn, m⟩ := by simp [ren, hG0, h30, h19]
          have HMX : Hid (mix (ren T) ops k = mix (ren T) ops (k + 1)) := HID hRn
          have HLA : Hid (∀ W, Calls Tryd.prog 36 #[opVal ⟨op, nn, m⟩] W fun e w' => e = .returned (.int .i64 0) ∧ Below W.heap.size W w') := fun W => by have h := labelR_c ⟨op, nn, m⟩ W; rwa [hG0] at h
          clear HS1 HS2 HST HID hnb hml hkl hlab h30 h19 hG0 hRn
          go_wp2_with (go_at_call 36; refine (HLA.out _).mono ?_; rintro e w6 ⟨rfl, hb6⟩; have HB6 := Lib.hid hb6; have y2 := (hb6.cell (World.block_lt_of_cell? _ _ c2)).trans c2; have y0 := (hb6.cell (World.block_lt_of_cell? _ _ q0)).trans q0; have y1 := (hb6.cell (World.block_lt_of_cell? _ _ q1)).trans q1; have y3 := (hb6.cell (World.block_lt_of_cell? _ _ q2)).trans q2; have g6 : gO < w6.heap.size := Nat.lt_of_lt_of_le gq hb6.size; clear hb6 c0 c1 c2 c3 c4 c5 q0 q1 q2 f1 f2)
          go_roundw
          case rel => exact ⟨k + 1, by omega, by go_num, by rw [← HMX.out]; exact owns_keep' HQW.out HB6.out, (fun p x hp hne => ((HB6.out.cell (World.block_lt_of_cell? _ _ (HCL.out p x hp hne))).trans (HCL.out p x hp hne))), HBQ.out.trans (HB6.out.mono HBQ.out.size)⟩
          case measure => simp [intOf]; omega
        · obtain rfl : ol' = k := by omega
          have hRe : R = ⟨name, data, ops.map (ren T), globals, procs, (n : Int)⟩ := by
            rw [← HR.out]
            show OC.Code.mk _ _ _ _ _ _ = _
            rw [HT0.out, hT.out]
            show OC.Code.mk name data (ops.map (ren T)) globals procs ((lbs ops).length : Int) = _
            rw [hn.out]
          subst hRe
          have hmix : mix (ren T) ops ol' = ops.map (ren T) := by rw [HO.out]; exact mix_all _ _
          rw [hmix] at hownq
          have q2 : w.heap.size + 1 < WR.heap.size := by omega
          have hb5 := HB5.out
          have nh : some h ≠ (Value.slice oa' ol' oc').ownBlock := fun e => by have := (hneO.out h e.symm).2; omega
          have c0 := hcell.out _ _ hb5.1 nh
          have c1 := hcell.out _ _ hb5.2.1 nh
          have c2 := hcell.out _ _ hb5.2.2.1 nh
          have c3 := hcell.out _ _ hb5.2.2.2.1 nh
          have c4 := hcell.out _ _ hb5.2.2.2.2.1 nh
          have c5 := hcell.out _ _ hb5.2.2.2.2.2 nh
          have ZB0 := BoxC.new (w.alloc (.cells #[.string ⟨name.toArray⟩, .slice da dl dc, .slice oa ol' oc, .slice ga gl gc, .int .i64 procs, .int .i64 labels] 26)) OC.cz none none none 0 0 0 0 0 0 26
          rw [show (w.alloc (.cells #[.string ⟨name.toArray⟩, .slice da dl dc, .slice oa ol' oc, .slice ga gl gc, .int .i64 procs, .int .i64 labels] 26)).heap.size = w.heap.size + 1 from by simp] at ZB0
          obtain ⟨e0, e1, e2, e3, e4, e5⟩ := ((ZB0.keep HB01.out (by simp)).keep HBL.out (by rw [HG.out]; exact s11g)).keep hblq q2
          have fz : ∀ o, wr.frozen? ⟨w.heap.size + 1, o, none⟩ = false := fun o => (hblq.frozen (p := ⟨w.heap.size + 1, o, none⟩) q2).trans ((HBL.out.frozen (p := ⟨w.heap.size + 1, o, none⟩) (by rw [HG.out]; exact s11g)).trans ((HB01.out.frozen (p := ⟨w.heap.size + 1, o, none⟩) (by simp)).trans (by simp [go_sem])))
          have y0 := fz 0
          have y1 := fz 1
          have y2 := fz 2
          have y3 := fz 3
          have y4 := fz 4
          have y5 := fz 5
          have sh : h < wr.heap.size := World.block_lt_of_cell? _ _ c0
          have s1r : w.heap.size + 1 < wr.heap.size := World.block_lt_of_cell? _ _ e0
          have HCL := Lib.hid hcell.out
          have HQW := Lib.hid hownq
          have HBQ := Lib.hid hblq
          clear fz hownq hcell hblq ZB0 hb5 nh
          go_wp2
          obtain ⟨t0, t1, t2, t3, t4, t5⟩ := six_set (.string ⟨name.toArray⟩) (.slice da' dl' dc') (.slice oa' ol' oc') (.slice ga' gl' gc') (.int .i64 procs) (.int .i64 (n : Int)) e0 e1 e2 e3 e4 e5
          have HMZ := (Kb.set (g := w.heap.size + 1) (j := 5) (u := (.int .i64 (n : Int))) (Kb.set (g := w.heap.size + 1) (j := 4) (u := (.int .i64 procs)) (Kb.set (g := w.heap.size + 1) (j := 3) (u := (.slice ga' gl' gc')) (Kb.set (g := w.heap.size + 1) (j := 2) (u := (.slice oa' ol' oc')) (Kb.set (g := w.heap.size + 1) (j := 1) (u := (.slice da' dl' dc')) (Kb.set (base := WR.heap.size) (w := wr) (w' := wr) (g := w.heap.size + 1) (j := 0) (u := (.string ⟨name.toArray⟩)) ⟨Nat.le_refl _, fun _ _ _ => rfl⟩ q2) q2) q2) q2) q2) q2)
          have HLZ := (Below.setCell (Below.setCell (Below.setCell (Below.setCell (Below.setCell (Below.setCell (HBW.out.trans (HBQ.out.mono (by omega))) (p := ⟨w.heap.size + 1, 0, none⟩) (Nat.le_succ _) (.string ⟨name.toArray⟩)) (p := ⟨w.heap.size + 1, 1, none⟩) (Nat.le_succ _) (.slice da' dl' dc')) (p := ⟨w.heap.size + 1, 2, none⟩) (Nat.le_succ _) (.slice oa' ol' oc')) (p := ⟨w.heap.size + 1, 3, none⟩) (Nat.le_succ _) (.slice ga' gl' gc')) (p := ⟨w.heap.size + 1, 4, none⟩) (Nat.le_succ _) (.int .i64 procs)) (p := ⟨w.heap.size + 1, 5, none⟩) (Nat.le_succ _) (.int .i64 (n : Int)))
          refine bodyPost_ret (v := .tuple #[.agg #[.string ⟨name.toArray⟩, .slice da' dl' dc', .slice oa' ol' oc', .slice ga' gl' gc', .int .i64 procs, .int .i64 (n : Int)], .int .i64 0]) (by simp [results, Tryd.results28, go_sem, t0, t1, t2, t3, t4, t5]) rfl ?_
          have hall : ∀ wz : World, (∀ p x, w.heap.size ≤ p.block → ((((((wr.setCell ⟨w.heap.size + 1, 0, none⟩ (.string ⟨name.toArray⟩)).setCell ⟨w.heap.size + 1, 1, none⟩ (.slice da' dl' dc')).setCell ⟨w.heap.size + 1, 2, none⟩ (.slice oa' ol' oc')).setCell ⟨w.heap.size + 1, 3, none⟩ (.slice ga' gl' gc')).setCell ⟨w.heap.size + 1, 4, none⟩ (.int .i64 procs)).setCell ⟨w.heap.size + 1, 5, none⟩ (.int .i64 (n : Int))).cell? p = some x → wz.cell? p = some x) → RdD wz (.slice da' dl' dc') data ∧ RdE wz (.slice ga' gl' gc') globals := fun wz hz => HA5.out wz (fun p x hbb hp hne => by
            have hx := HCL.out p x hp hne
            obtain ⟨pb, po, ps⟩ := p
            have hsp := World.cell?_spot hx
            dsimp only at hsp
            subst hsp
            have hne1 : pb ≠ w.heap.size + 1 := by dsimp only at hbb; omega
            exact hz _ x (by dsimp only at hbb ⊢; omega) ((set_other _ _ _ _ _ _ hne1).trans ((set_other _ _ _ _ _ _ hne1).trans ((set_other _ _ _ _ _ _ hne1).trans ((set_other _ _ _ _ _ _ hne1).trans ((set_other _ _ _ _ _ _ hne1).trans ((set_other _ _ _ _ _ _ hne1).trans hx)))))))
          have hop := owns_kb HQW.out HMZ
          exact ⟨⟨da', oa', ga', dl', dc', ol', oc', gl', gc', rfl, fun wz hz => ⟨(hall wz hz).1, RdO.kp hop (by omega) (fun p x hb hx => hz p x (by omega) hx), (hall wz hz).2, HC.out.name⟩⟩, HLZ⟩
end Go.Proofs.YthlakfgpmggceaaDoor
