/- The program's Room: what it answers. -/
import Derived.Test.YtfnkafnjpldaoaaDoorOcPr
namespace Go.Proofs.YtfnkafnjpldaoaaDoor
open Go.RowKit
set_option linter.unusedVariables false
set_option linter.unusedSimpArgs false
theorem proQ_le {P : Int} {r : List OC.Op} {p : Int} (h : OC.proQ P p r = true) : p ≤ P := by have := cnt_procs r p h; omega
theorem proQ_next {P p : Int} {o : OC.Op} {r : List OC.Op} (h : OC.proQ P p (o :: r) = true) : OC.proQ P (if o.op = 24 then p + 1 else p) r = true ∧ (o.op = 24 → o.n = p + 1) ∧ ((if o.op = 24 then p + 1 else p) ≠ 0) := by
  rw [OC.proQ] at h
  by_cases a1 : (if o.op = 24 then p + 1 else p) = 0 ∨ (o.op = 24 ∧ o.n ≠ (if o.op = 24 then p + 1 else p))
  · rw [if_pos a1] at h; cases h
  rw [if_neg a1] at h
  by_cases a2 : OC.nx r = 24 ∧ OC.goQ o r = true
  · rw [if_pos a2] at h; cases h
  rw [if_neg a2] at h
  exact ⟨h, fun e => Classical.byContradiction fun hh => a1 (.inr ⟨e, by rw [if_pos e]; exact hh⟩), fun e => a1 (.inl e)⟩
theorem pad_get {acc : List Int} {n N : Nat} (ha : acc.length = n) (q : Nat) (hq : n ≤ q) : (acc ++ List.replicate (N - n) (0 : Int)).getD q 0 = 0 := by
  rw [List.getD_eq_getElem?_getD, List.getElem?_append_right (by omega), List.getElem?_replicate]
  split <;> rfl
theorem pad_at {acc : List Int} {n N : Nat} (ha : acc.length = n) (q : Nat) (hq : n ≤ q) (hN : q < N) : ((acc ++ List.replicate (N - n) (0 : Int)).map (Value.int .i64))[q]? = some (.int .i64 0) := by
  rw [List.getElem?_map, List.getElem?_append_right (by omega), List.getElem?_replicate, if_pos (by omega)]; rfl
theorem pad_snoc {acc : List Int} {n N : Nat} (hn : n < N) : acc ++ List.replicate (N - n) (0 : Int) = (acc ++ [0]) ++ List.replicate (N - (n + 1)) 0 := by
  rw [show N - n = (N - (n + 1)) + 1 by omega, List.replicate_succ]; simp
theorem pad_set {acc : List Int} {q N n : Nat} {v : Int} (hq : q < acc.length) : (acc ++ List.replicate (N - n) (0 : Int)).set q v = acc.set q v ++ List.replicate (N - n) 0 := by
  rw [List.set_append, if_pos hq]
theorem checkQ_pro {c : OC.Code} (h : checkQ c = 0) : OC.proQ c.procs 0 c.ops = true := by
  unfold checkQ at h
  by_cases a : OC.withinQ c = false
  · rw [if_pos a] at h; cases h
  rw [if_neg a] at h
  by_cases b : isCodeQ c = false
  · rw [if_pos b] at h; cases h
  rw [Bool.not_eq_false] at b
  unfold isCodeQ at b
  simp only [Bool.and_eq_true] at b
  exact b.1.1.1.2
/-- a list of numbers and an error, the list's capacity told -/
def ListF (xs : List Int) (E : Nat) (e : Ending) (w' : World) : Prop := ∃ a cap, e = .returned (.tuple #[.slice a xs.length cap, .int .i64 (E : Int)]) ∧ xs.length ≤ cap ∧ Rd .i64 w' (.slice a xs.length cap) xs
set_option maxRecDepth 100000 in
set_option maxHeartbeats 8000000 in
theorem RoomF_c (c : OC.Code) (da oa ga : Option Addr) (dl dc ol oc gl gc : Nat) (w : World) (hc : CodeIn w c da oa ga dl dc ol oc gl gc) (hs : Small c) (hi : InstAt w) :
    Calls Tryd.prog 8 #[codeV c da oa ga dl dc ol oc gl gc] w fun e w' => ListF (roomA c) (checkQ c) e w' ∧ Below w.heap.size w w' := by
  obtain ⟨hol, hoc, hom⟩ := hc.ops.len
  have HC := Lib.hid hc
  have HI := Lib.hid hi
  have HO := Lib.hid hol
  have hol2 := hs.ops
  rw [← hol] at hol2
  obtain ⟨E, hE⟩ : ∃ E, checkQ c = E := ⟨_, rfl⟩
  have HCK : Hid (∀ W, CodeIn W c da oa ga dl dc ol oc gl gc → InstAt W → Calls Tryd.prog 11 #[codeV c da oa ga dl dc ol oc gl gc] W fun e w' => e = .returned (.int .i64 (E : Int)) ∧ Below W.heap.size W w') := fun W hW h2 => by have h := CheckQ_c c da oa ga dl dc ol oc gl gc W hW hs h2; rwa [hE] at h
  unfold ListF
  by_cases hE0 : E = 0
  case neg =>
    have hA : roomA c = [] := by unfold roomA; rw [if_neg (fun h => hE0 (hE.symm.trans ((checkQ_zero c).2 h)))]
    rw [hA, hE]
    have ee : ((E : Int) != 0) = true := by simp; omega
    obtain ⟨name, data, ops, globals, procs, labels⟩ := c
    clear hE hE0 hs hc hol hA hi
    go_enter Tryd.func8, Tryd.ntmps8
    go_wp2_with (go_at_call 11; refine (HCK.out _ (HC.out.keep (below_alloc _ _)) (HI.out.keep (below_alloc _ _) (Nat.le_refl _))).mono ?_; rintro e w1 ⟨rfl, hb1⟩)
    go_ret2
    exact ⟨⟨none, 0, rfl, Nat.le_refl _, Rd.nil _ _⟩, below_then (below_alloc _ _) hb1⟩
  subst hE0
  have hEE : checkE c = 0 := (checkQ_zero c).1 hE
  have hA : roomA c = roomG c.ops (depG 0 c.ops) [] := by unfold roomA; rw [if_pos hEE]
  rw [hA, hE]
  clear hA
  obtain ⟨ii, hi1, hz0, hz1, hz2⟩ := info_parts int_info
  have HII := Lib.hid hi1
  have HZ0 := Lib.hid hz0
  have HZ1 := Lib.hid hz1
  have HZ2 := Lib.hid hz2
  clear hi1 hz0 hz1 hz2
  obtain ⟨hnum, hord, _, _, hp0, hp1, t, _, _, hdp⟩ := checkE_ok hEE
  have hpro := checkQ_pro hE
  have HN := Lib.hid hnum
  have hen : ∀ o ∈ c.ops, o.op = 24 → 0 ≤ o.m ∧ o.m ≤ 8 := fun o ho e => (m_of_numB (hnum o ho)).2 e
  have HDB := Lib.hid (depG_bd (t := t) (ops := c.ops) ⟨_, _, hdp⟩ hen (Int.le_refl 0) (by omega))
  obtain ⟨ds, hds⟩ : ∃ x, depG 0 c.ops = x := ⟨_, rfl⟩
  have hdl3 : ds.length = ol := by rw [← hds, depG_len, hol]
  have HDL3 := Lib.hid hdl3
  have HDP : Hid (∀ W, RdO W (.slice oa ol oc) c.ops → Calls Tryd.prog 12 #[.slice oa ol oc] W fun e w' => (∃ g, e = .returned (.slice (some ⟨g, 0, none⟩) ol ol) ∧ W.heap.size ≤ g ∧ w'.ownsRow 0 3 1 (.slice (some ⟨g, 0, none⟩) ol ol) ol (ds.map (.int .i64))) ∧ Below W.heap.size W w') := fun W hW => by have h := depthsP_c c.data.length c.procs c.labels c.ops oa ol oc W hW hnum hol2; rwa [hds] at h
  rw [hds] at HDB ⊢
  obtain ⟨RG, hRG⟩ : ∃ x, roomG c.ops ds [] = x := ⟨_, rfl⟩
  have HRG := Lib.hid hRG
  rw [hRG]
  have HPRO := Lib.hid hpro
  obtain ⟨name, data, ops, globals, procs, labels⟩ := c
  dsimp only at *
  obtain ⟨pr, hpr⟩ : ∃ pr : Nat, procs = (pr : Int) := ⟨procs.toNat, by omega⟩
  subst hpr
  have hpr1 : pr ≤ 200 := by omega
  clear hE hEE hs hc hol hnum hord hp0 hp1 hdp hpro hen hds hdl3 hRG hi
  go_enter Tryd.func8, Tryd.ntmps8
  go_wp2_with (first
    | (go_at_call 11; refine (HCK.out _ (HC.out.keep (below_alloc _ _)) (HI.out.keep (below_alloc _ _) (Nat.le_refl _))).mono ?_; rintro e w1 ⟨rfl, hb1⟩; have HB1 := Lib.hid ((BoxC.new w ⟨name, data, ops, globals, (pr : Int), labels⟩ da oa ga dl dc ol oc gl gc 26).keep hb1 (by simp)); have HL1 := Lib.hid (below_then (below_alloc w _) hb1); obtain ⟨c0, c1, c2, c3, c4, c5⟩ := HB1.out)
    | (at_make; refine wpList_make_full _ rfl _ _ 29 rfl 0 3 ii (.int .i64 0) 1 Tryd.underlying29 HII.out HZ0.out HZ1.out .i64 .i64 _ _ pr rfl rfl rfl rfl (by rw [HZ2.out]; omega) (by unfold maxLen; omega) (Nat.zero_le _) ?_; intro w2 hown2 hg2; have HB2 := Lib.hid (HB1.out.keep (below_grown hg2) HB1.out.lt); have HL2 := Lib.hid (below_then HL1.out (below_grown hg2)); have HG2 := Lib.hid (below_grown hg2); clear c0 c1 c2 c3 c4 c5; obtain ⟨c0, c1, c2, c3, c4, c5⟩ := HB2.out; obtain ⟨hcm, hfm⟩ := bcell HG2.out)
    | (go_at_call 12; refine (HDP.out _ (HC.out.keep HL2.out).ops).mono ?_; rintro e w3 ⟨⟨gd, rfl, hgd, hownd⟩, hb3⟩; have HB3 := Lib.hid (HB2.out.keep hb3 HB2.out.lt); have HL3 := Lib.hid (below_then HL2.out hb3); clear c0 c1 c2 c3 c4 c5; obtain ⟨c0, c1, c2, c3, c4, c5⟩ := HB3.out))
  obtain ⟨g, hg⟩ : ∃ g, w1.heap.size = g := ⟨_, rfl⟩
  have hgw : w.heap.size < g := by have := HB1.out.lt; omega
  rw [hg] at hown2
  (try rw [hg])
  have HOW : Hid (w3.ownsRow 0 3 1 (.slice (some ⟨g, 0, none⟩) pr pr) pr ((List.replicate pr (0 : Int)).map (.int .i64))) := by
    show World.ownsRow _ _ _ _ _ _ _; rw [← zeros_eq]; exact owns_keep' hown2 hb3
  have HOD := Lib.hid hownd
  have hdz : gd < w3.heap.size := (hownd.lt _ rfl).2
  have hgd2 : g < gd := by
    have h := (hown2.lt _ rfl).2
    dsimp only at h
    omega
  have hwz3 : w.heap.size < w3.heap.size := HB3.out.lt
  clear hb1 hg2 hg hown2 hownd hgd hb3 hcm hfm c0 c1 c2 c3 c4 c5
  obtain ⟨c0, c1, c2, c3, c4, c5⟩ := HB3.out
  go_wp2
  clear c0 c1 c2 c3 c4 c5
  go_loopw [6, 22] (fun pv i wr => ∃ (k n : Nat) (q : Int) (acc : List Int), k ≤ ol ∧ i = .int .i64 k ∧ pv = .int .i64 q ∧ (0 < n → q + 1 = n) ∧ n ≤ pr ∧ (k = 0 ∨ 0 < n) ∧ acc.length = n ∧ wr.ownsRow 0 3 1 (.slice (some ⟨g, 0, none⟩) pr pr) pr ((acc ++ List.replicate (pr - n) 0).map (.int .i64)) ∧ Hid (RG = roomG (ops.drop k) (ds.drop k) acc ∧ OC.proQ pr n (ops.drop k) = true) ∧ BoxC wr w.heap.size ⟨name, data, ops, globals, (pr : Int), labels⟩ da oa ga dl dc ol oc gl gc ∧ (∀ p v, gd ≤ p.block → w3.cell? p = some v → wr.cell? p = some v) ∧ w3.heap.size ≤ wr.heap.size ∧ Below w.heap.size w wr) (fun _ i _ => ol - (intOf i).toNat)
  case atStart => exact ⟨0, 0, 0, [], Nat.zero_le _, rfl, rfl, fun h => by omega, Nat.zero_le _, .inl rfl, rfl, by simpa using HOW.out, ⟨by rw [← HRG.out]; rfl, HPRO.out⟩, HB3.out, fun _ _ _ h => h, Nat.le_refl _, HL3.out⟩
  case round =>
    clear HOW HRG HB1 HB2 HB3 HL1 HL2 HL3 HG2
    obtain ⟨k, n, q0, acc, hk, rfl, rfl, hqn, hnp, hkn, hacc, hown, hq, hbox, hkp, hsz, hbl⟩ := hrel
    have HBOX := Lib.hid hbox
    have HKP := Lib.hid hkp
    have HOWN := Lib.hid hown
    have HACC := Lib.hid hacc
    have hgz : g < wr.heap.size := (hown.lt _ rfl).2
    obtain ⟨c0, c1, c2, c3, c4, c5⟩ := hbox
    by_cases hlt : k < ol
    · obtain ⟨-, b, off, rfl, q1, q2, q3⟩ := HC.out.ops.get hlt
      have hbw : b < w.heap.size := World.block_lt_of_cell? _ _ q1
      obtain ⟨h0, h1, h2⟩ := (show OpAt w b (off + k * 3) _ from ⟨q1, q2, q3⟩).keep hbl
      clear q1 q2 q3
      have hkl : k < ops.length := by rw [← HO.out]; exact hlt
      have hd := dropAt (d := OC.oz) hkl
      have hkd : k < ds.length := by rw [HDL3.out]; exact hlt
      have hdd := dropAt (d := (0 : Int)) hkd
      have hnb := HN.out _ (getD_map_range ops OC.oz hkl)
      have hdz1 := HDB.out _ (getD_map_range ds 0 hkd)
      have hcd0 : w3.cell? ⟨gd, k, none⟩ = some (.int .i64 (ds.getD k 0)) := by rw [HOD.out.cellAt k (by omega)]; simp [HDL3.out, hlt]
      have hcd := hkp _ _ (Nat.le_refl _) hcd0
      clear hkp hcd0
      obtain ⟨hq1, hq2⟩ := hq.out
      rw [hd] at hq2
      obtain ⟨pn1, pn2, pn3⟩ := proQ_next hq2
      rw [hd, hdd] at hq1
      generalize ops.getD k OC.oz = x at *
      obtain ⟨b1, b2, b3, b4, b5, b6⟩ := numB_bd hnb
      obtain ⟨D, hD⟩ : ∃ D, ds.getD k 0 = D := ⟨_, rfl⟩
      rw [hD] at hcd hdz1 hq1
      obtain ⟨dz1, dz2⟩ := hdz1
      obtain ⟨A, hA⟩ : ∃ A, OC.after x D = A := ⟨_, rfl⟩
      have hAf : Hid (∀ W, Calls Tryd.prog 14 #[opVal x, .int .i64 D] W fun e w' => e = .returned (.int .i64 A) ∧ Below W.heap.size W w') := fun W => by have h := behindP_c x D W b3 b4 b5 b6 (by omega) (by omega); rwa [hA] at h
      obtain ⟨op, nn, m⟩ := x
      dsimp only at h0 h1 h2 pn1 pn2 pn3
      have k1 : (k : Int) < (ol : Int) := by omega
      have hbb : b < wr.heap.size := by omega
      have hbb1 : b < wr.heap.size + 1 := by omega
      have hgz1 : g < wr.heap.size + 1 := by omega
      have hwz1 : w.heap.size < wr.heap.size + 1 := by omega
      have hgdz : gd < wr.heap.size := by omega
      have mg : ¬ b = g := by omega
      -- what holds behind the round, for the list acc' that the room has then
      have REL : Hid (∀ (w2 : World) (q : Nat) (v : Int) (acc' : List Int), Below wr.heap.size wr w2 → (acc ++ List.replicate (pr - n) 0).set q v = acc' → (w2.setCell ⟨g, q, none⟩ (.int .i64 v)).ownsRow 0 3 1 (.slice (some ⟨g, 0, none⟩) pr pr) pr (acc'.map (.int .i64)) ∧ BoxC (w2.setCell ⟨g, q, none⟩ (.int .i64 v)) w.heap.size ⟨name, data, ops, globals, (pr : Int), labels⟩ da (some ⟨b, off, none⟩) ga dl dc ol oc gl gc ∧ (∀ p v', gd ≤ p.block → w3.cell? p = some v' → (w2.setCell ⟨g, q, none⟩ (.int .i64 v)).cell? p = some v') ∧ w3.heap.size ≤ (w2.setCell ⟨g, q, none⟩ (.int .i64 v)).heap.size ∧ Below w.heap.size w (w2.setCell ⟨g, q, none⟩ (.int .i64 v))) := by
        intro w2 q v acc' hb he
        have hbf := hb
        have hbx := HBOX.out.keep hbf (by omega)
        refine ⟨?_, ⟨(set_other _ _ _ _ _ _ (by omega)).trans hbx.1, (set_other _ _ _ _ _ _ (by omega)).trans hbx.2.1, (set_other _ _ _ _ _ _ (by omega)).trans hbx.2.2.1, (set_other _ _ _ _ _ _ (by omega)).trans hbx.2.2.2.1, (set_other _ _ _ _ _ _ (by omega)).trans hbx.2.2.2.2.1, (set_other _ _ _ _ _ _ (by omega)).trans hbx.2.2.2.2.2⟩, fun p v' hp hv => ?_, ?_, (below_then hbl hbf).setCell (p := ⟨g, q, none⟩) (by dsimp only; omega) _⟩
        · rw [← he, List.map_set]; exact ((owns_keep' HOWN.out hbf).stored q (.int .i64 v)).1
        · have h1 := HKP.out p v' hp hv
          rw [World.cell?_setCell_other _ _ _ _ (fun e => by have := congrArg Addr.block e; dsimp only at this; omega)]
          exact (hbf.cell (World.block_lt_of_cell? _ _ h1)).trans h1
        · have := hbf.size; simp; omega
      by_cases h24 : op = 24
      · rw [if_pos h24] at pn1 pn3
        have hn1 := pn2 h24
        have hle := proQ_le pn1
        have hnl : n < pr := by omega
        subst h24
        obtain ⟨q, hqd⟩ : ∃ q, q = n := ⟨_, rfl⟩
        subst hqd
        have hcell : wr.cell? ⟨g, q, none⟩ = some (.int .i64 0) := by rw [hown.cellAt q (by omega)]; exact pad_at hacc q (Nat.le_refl _) hnl
        have hfz := hown.frozenAt q
        have hfz3 : (wr.alloc (.cells #[.int .i64 24, .int .i64 nn, .int .i64 m] 35)).frozen? ⟨g, q, none⟩ = false := by simpa [World.frozen?_alloc_past, hgz] using hfz
        have q1 : (q : Int) < (pr : Int) := by omega
        have q2 : nn - 1 = (q : Int) := by omega
        have q3 : IntKind.i64.wrap (q : Int) = (q : Int) := IntWalk.i64_in _ (by omega)
        have HNX : Hid (RG = roomG (ops.drop (k + 1)) (ds.drop (k + 1)) ((acc ++ [0]).set q (max (max 0 D) A)) ∧ OC.proQ pr ((q + 1 : Nat) : Int) (ops.drop (k + 1)) = true) := ⟨by rw [hq1, roomG]; simp [hacc, hA], pn1⟩
        have HST : Hid ((acc ++ List.replicate (pr - q) 0).set q (max (max 0 D) A) = (acc ++ [0]).set q (max (max 0 D) A) ++ List.replicate (pr - (q + 1)) 0) := by show _ = _; rw [pad_snoc hnl, pad_set (by simp; omega)]
        have HLN : Hid (((acc ++ [0]).set q (max (max 0 D) A)).length = q + 1) := by show _ = _; simp [hacc]
        clear hd hdd hkd hq hD hA hnb hq1 hq2 pn1 pn2 pn3 hown hqn hacc hkn hn1 hle
        go_wp2
        refine OrdJ.wp (S := (fun w' => w'.cell? ⟨g, q, none⟩ = some (.int .i64 0) ∧ w'.cell? ⟨wr.heap.size, 0, none⟩ = some (.int .i64 24) ∧ w'.cell? ⟨wr.heap.size, 1, none⟩ = some (.int .i64 nn) ∧ w'.cell? ⟨wr.heap.size, 2, none⟩ = some (.int .i64 m))) (d := 12) (by kernel_rfl) ?_ (fun hHeld => ?_)
        · go_keep
        refine OrdJ.take (i := 0) (v := ?va0) (ch := [12]) rfl rfl (by kernel_rfl) (by kernel_rfl) (by kernel_rfl) (by kernel_rfl) (by kernel_rfl) (fun _ _ _ h => h) (Or.inl ⟨by rfl, ?hya0⟩) (by assumption) ?resta0
        case hya0 => (intro W hSw; (try dsimp only at hSw); go_simp; try with_reducible rfl)
        try simp only [Act.put, List.setIfInBounds_toArray, List.set_cons_zero, List.set_cons_succ]
        refine OrdJ.take (i := 1) (v := ?va1) (ch := [12]) rfl rfl (by kernel_rfl) (by kernel_rfl) (by kernel_rfl) (by kernel_rfl) (by kernel_rfl) (fun _ _ _ h => h) (Or.inl ⟨by rfl, ?hya1⟩) (by assumption) ?resta1
        case hya1 => (intro W hSw; (try dsimp only at hSw); go_simp; try with_reducible rfl)
        try simp only [Act.put, List.setIfInBounds_toArray, List.set_cons_zero, List.set_cons_succ]
        refine OrdJ.take (i := 2) (v := ?va2) (ch := [12]) rfl rfl (by kernel_rfl) (by kernel_rfl) (by kernel_rfl) (by kernel_rfl) (by kernel_rfl) (fun _ _ _ h => h) (Or.inl ⟨by rfl, ?hya2⟩) (by assumption) ?resta2
        case hya2 => (intro W hSw; (try dsimp only at hSw); go_simp; try with_reducible rfl)
        try simp only [Act.put, List.setIfInBounds_toArray, List.set_cons_zero, List.set_cons_succ]
        refine OrdJ.take (i := 3) (v := ?va3) (ch := [12]) rfl rfl (by kernel_rfl) (by kernel_rfl) (by kernel_rfl) (by kernel_rfl) (by kernel_rfl) (fun _ _ _ h => h) (Or.inl ⟨by rfl, ?hya3⟩) (by assumption) ?resta3
        case hya3 => (intro W hSw; (try dsimp only at hSw); go_simp; try with_reducible rfl)
        try simp only [Act.put, List.setIfInBounds_toArray, List.set_cons_zero, List.set_cons_succ]
        refine OrdJ.take (i := 4) (v := ?va4) (ch := [12]) rfl rfl (by kernel_rfl) (by kernel_rfl) (by kernel_rfl) (by kernel_rfl) (by kernel_rfl) (fun _ _ _ h => h) (Or.inl ⟨by rfl, ?hya4⟩) (by assumption) ?resta4
        case hya4 => (intro W hSw; (try dsimp only at hSw); go_simp; try with_reducible rfl)
        try simp only [Act.put, List.setIfInBounds_toArray, List.set_cons_zero, List.set_cons_succ]
        refine OrdJ.take (i := 5) (v := ?va5) (ch := [12]) rfl rfl (by kernel_rfl) (by kernel_rfl) (by kernel_rfl) (by kernel_rfl) (by kernel_rfl) (fun _ _ _ h => h) (Or.inl ⟨by rfl, ?hya5⟩) (by assumption) ?resta5
        case hya5 => (intro W hSw; (try dsimp only at hSw); go_simp; try with_reducible rfl)
        try simp only [Act.put, List.setIfInBounds_toArray, List.set_cons_zero, List.set_cons_succ]
        refine OrdJ.take (i := 6) (v := ?va6) (ch := [12]) rfl rfl (by kernel_rfl) (by kernel_rfl) (by kernel_rfl) (by kernel_rfl) (by kernel_rfl) (fun _ _ _ h => h) (Or.inl ⟨by rfl, ?hya6⟩) (by assumption) ?resta6
        case hya6 => (intro W hSw; (try dsimp only at hSw); go_simp; try with_reducible rfl)
        try simp only [Act.put, List.setIfInBounds_toArray, List.set_cons_zero, List.set_cons_succ]
        refine OrdJ.take (i := 7) (v := ?va7) (ch := [12]) rfl rfl (by kernel_rfl) (by kernel_rfl) (by kernel_rfl) (by kernel_rfl) (by kernel_rfl) (fun _ _ _ h => h) (Or.inl ⟨by rfl, ?hya7⟩) (by assumption) ?resta7
        case hya7 => (intro W hSw; (try dsimp only at hSw); go_simp; try with_reducible rfl)
        try simp only [Act.put, List.setIfInBounds_toArray, List.set_cons_zero, List.set_cons_succ]
        refine OrdJ.take (i := 8) (v := ?va8) (ch := [12]) rfl rfl (by kernel_rfl) (by kernel_rfl) (by kernel_rfl) (by kernel_rfl) (by kernel_rfl) (fun _ _ _ h => h) (Or.inl ⟨by rfl, ?hya8⟩) (by assumption) ?resta8
        case hya8 => (intro W hSw; (try dsimp only at hSw); go_simp; try with_reducible rfl)
        try simp only [Act.put, List.setIfInBounds_toArray, List.set_cons_zero, List.set_cons_succ]
        refine OrdJ.one (i := 9) (by kernel_rfl) rfl (fun K hK => ?_)
        go_simp
        go_at_call 14
        refine (hAf.out _).mono ?_
        rintro e w2 ⟨rfl, hb2⟩
        have hb2d := hb2
        have hS2 : (fun w' => w'.cell? ⟨g, q, none⟩ = some (.int .i64 0) ∧ w'.cell? ⟨wr.heap.size, 0, none⟩ = some (.int .i64 24) ∧ w'.cell? ⟨wr.heap.size, 1, none⟩ = some (.int .i64 nn) ∧ w'.cell? ⟨wr.heap.size, 2, none⟩ = some (.int .i64 m)) w2 := by
          (try dsimp only at hHeld ⊢); go_split_ands; refine ⟨?_, ?_, ?_, ?_⟩ <;> exact (hb2.cell (World.block_lt_of_cell? _ _ (by assumption))).trans (by assumption)
        have hf2 : w2.frozen? ⟨g, q, none⟩ = false := (hb2.frozen (p := ⟨g, q, none⟩) (by simp; omega)).trans (by simpa using hfz3)
        refine hK.out _ _ ⟨fun _ => hS2, ?_⟩
        clear hK K hHeld
        try simp only [Act.put, List.setIfInBounds_toArray, List.set_cons_zero, List.set_cons_succ]
        refine OrdJ.take (i := 10) (v := ?va10) (ch := [12]) rfl rfl (by kernel_rfl) (by kernel_rfl) (by kernel_rfl) (by kernel_rfl) (by kernel_rfl) (fun _ _ _ h => h) (Or.inl ⟨by rfl, ?hya10⟩) (by assumption) ?resta10
        case hya10 => (intro W hSw; (try dsimp only at hSw); go_simp; try with_reducible rfl)
        try simp only [Act.put, List.setIfInBounds_toArray, List.set_cons_zero, List.set_cons_succ]
        refine OrdJ.take (i := 11) (v := ?va11) (ch := [12]) rfl rfl (by kernel_rfl) (by kernel_rfl) (by kernel_rfl) (by kernel_rfl) (by kernel_rfl) (fun _ _ _ h => h) (Or.inl ⟨by rfl, ?hya11⟩) (by assumption) ?resta11
        case hya11 => (intro W hSw; (try dsimp only at hSw); go_simp; try with_reducible rfl)
        try simp only [Act.put, List.setIfInBounds_toArray, List.set_cons_zero, List.set_cons_succ]
        refine OrdJ.one (i := 12) (by kernel_rfl) rfl (fun K hK => ?_)
        have hc2 := hS2.1
        go_simp
        refine hK.out _ _ ⟨fun h => absurd rfl h, ?_⟩
        clear hK K
        try simp only [Act.put, List.setIfInBounds_toArray, List.set_cons_zero, List.set_cons_succ]
        refine OrdJ.done (by kernel_rfl) ?_
        go_wp2
        go_roundw
        case rel =>
          simp only [maxIf]
          obtain ⟨r1, r2, r3, r4, r5⟩ := REL.out w2 q (max (max 0 D) A) _ (below_then (below_alloc wr _).drew hb2d) rfl
          rw [HST.out] at r1
          exact ⟨k + 1, q + 1, q, _, by omega, by go_num, rfl, fun _ => by omega, by omega, .inr (by omega), HLN.out, r1, HNX, r2, r3, r4, r5⟩
        case measure => simp [intOf]; omega
      · rw [if_neg h24] at pn1 pn3
        have hn0 : 0 < n := by omega
        have e24 : (op == 24) = false := by simpa using h24
        have hq0 := hqn hn0
        obtain ⟨q, hqd⟩ : ∃ q, n = q + 1 := ⟨n - 1, by omega⟩
        subst hqd
        obtain rfl : (q : Int) = q0 := by omega
        have hcell : wr.cell? ⟨g, q, none⟩ = some (.int .i64 (acc.getD q 0)) := by rw [hown.cellAt q (by omega)]; simp [List.getElem?_append, hacc]
        have hfz := hown.frozenAt q
        have hfz3 : (wr.alloc (.cells #[.int .i64 op, .int .i64 nn, .int .i64 m] 35)).frozen? ⟨g, q, none⟩ = false := by simpa [World.frozen?_alloc_past, hgz] using hfz
        have q1 : (q : Int) < (pr : Int) := by omega
        have HNX : Hid (RG = roomG (ops.drop (k + 1)) (ds.drop (k + 1)) (acc.set q (max (max (acc.getD q 0) D) A)) ∧ OC.proQ pr ((q + 1 : Nat) : Int) (ops.drop (k + 1)) = true) := ⟨by rw [hq1, roomG]; simp only [if_neg h24, hacc, hA, Nat.add_sub_cancel], pn1⟩
        obtain ⟨z, hz⟩ : ∃ z, acc.getD q 0 = z := ⟨_, rfl⟩
        rw [hz] at hcell HNX
        have HST : Hid ((acc ++ List.replicate (pr - (q + 1)) 0).set q (max (max z D) A) = acc.set q (max (max z D) A) ++ List.replicate (pr - (q + 1)) 0) := by show _ = _; rw [pad_set (by omega)]
        have HLN : Hid ((acc.set q (max (max z D) A)).length = q + 1) := by show _ = _; rw [List.length_set]; exact hacc
        clear hd hdd hkd hq hD hA hnb hq1 hq2 pn1 pn2 pn3 hown hqn hacc hkn hn0 hz h24 hq0
        go_wp2
        refine OrdJ.wp (S := (fun w' => w'.cell? ⟨g, q, none⟩ = some (.int .i64 z) ∧ w'.cell? ⟨wr.heap.size, 0, none⟩ = some (.int .i64 op) ∧ w'.cell? ⟨wr.heap.size, 1, none⟩ = some (.int .i64 nn) ∧ w'.cell? ⟨wr.heap.size, 2, none⟩ = some (.int .i64 m))) (d := 12) (by kernel_rfl) ?_ (fun hHeld => ?_)
        · go_keep
        refine OrdJ.take (i := 0) (v := ?vb0) (ch := [12]) rfl rfl (by kernel_rfl) (by kernel_rfl) (by kernel_rfl) (by kernel_rfl) (by kernel_rfl) (fun _ _ _ h => h) (Or.inl ⟨by rfl, ?hyb0⟩) (by assumption) ?restb0
        case hyb0 => (intro W hSw; (try dsimp only at hSw); go_simp; try with_reducible rfl)
        try simp only [Act.put, List.setIfInBounds_toArray, List.set_cons_zero, List.set_cons_succ]
        refine OrdJ.take (i := 1) (v := ?vb1) (ch := [12]) rfl rfl (by kernel_rfl) (by kernel_rfl) (by kernel_rfl) (by kernel_rfl) (by kernel_rfl) (fun _ _ _ h => h) (Or.inl ⟨by rfl, ?hyb1⟩) (by assumption) ?restb1
        case hyb1 => (intro W hSw; (try dsimp only at hSw); go_simp; try with_reducible rfl)
        try simp only [Act.put, List.setIfInBounds_toArray, List.set_cons_zero, List.set_cons_succ]
        refine OrdJ.take (i := 2) (v := ?vb2) (ch := [12]) rfl rfl (by kernel_rfl) (by kernel_rfl) (by kernel_rfl) (by kernel_rfl) (by kernel_rfl) (fun _ _ _ h => h) (Or.inl ⟨by rfl, ?hyb2⟩) (by assumption) ?restb2
        case hyb2 => (intro W hSw; (try dsimp only at hSw); go_simp; try with_reducible rfl)
        try simp only [Act.put, List.setIfInBounds_toArray, List.set_cons_zero, List.set_cons_succ]
        refine OrdJ.take (i := 3) (v := ?vb3) (ch := [12]) rfl rfl (by kernel_rfl) (by kernel_rfl) (by kernel_rfl) (by kernel_rfl) (by kernel_rfl) (fun _ _ _ h => h) (Or.inl ⟨by rfl, ?hyb3⟩) (by assumption) ?restb3
        case hyb3 => (intro W hSw; (try dsimp only at hSw); go_simp; try with_reducible rfl)
        try simp only [Act.put, List.setIfInBounds_toArray, List.set_cons_zero, List.set_cons_succ]
        refine OrdJ.take (i := 4) (v := ?vb4) (ch := [12]) rfl rfl (by kernel_rfl) (by kernel_rfl) (by kernel_rfl) (by kernel_rfl) (by kernel_rfl) (fun _ _ _ h => h) (Or.inl ⟨by rfl, ?hyb4⟩) (by assumption) ?restb4
        case hyb4 => (intro W hSw; (try dsimp only at hSw); go_simp; try with_reducible rfl)
        try simp only [Act.put, List.setIfInBounds_toArray, List.set_cons_zero, List.set_cons_succ]
        refine OrdJ.take (i := 5) (v := ?vb5) (ch := [12]) rfl rfl (by kernel_rfl) (by kernel_rfl) (by kernel_rfl) (by kernel_rfl) (by kernel_rfl) (fun _ _ _ h => h) (Or.inl ⟨by rfl, ?hyb5⟩) (by assumption) ?restb5
        case hyb5 => (intro W hSw; (try dsimp only at hSw); go_simp; try with_reducible rfl)
        try simp only [Act.put, List.setIfInBounds_toArray, List.set_cons_zero, List.set_cons_succ]
        refine OrdJ.take (i := 6) (v := ?vb6) (ch := [12]) rfl rfl (by kernel_rfl) (by kernel_rfl) (by kernel_rfl) (by kernel_rfl) (by kernel_rfl) (fun _ _ _ h => h) (Or.inl ⟨by rfl, ?hyb6⟩) (by assumption) ?restb6
        case hyb6 => (intro W hSw; (try dsimp only at hSw); go_simp; try with_reducible rfl)
        try simp only [Act.put, List.setIfInBounds_toArray, List.set_cons_zero, List.set_cons_succ]
        refine OrdJ.take (i := 7) (v := ?vb7) (ch := [12]) rfl rfl (by kernel_rfl) (by kernel_rfl) (by kernel_rfl) (by kernel_rfl) (by kernel_rfl) (fun _ _ _ h => h) (Or.inl ⟨by rfl, ?hyb7⟩) (by assumption) ?restb7
        case hyb7 => (intro W hSw; (try dsimp only at hSw); go_simp; try with_reducible rfl)
        try simp only [Act.put, List.setIfInBounds_toArray, List.set_cons_zero, List.set_cons_succ]
        refine OrdJ.take (i := 8) (v := ?vb8) (ch := [12]) rfl rfl (by kernel_rfl) (by kernel_rfl) (by kernel_rfl) (by kernel_rfl) (by kernel_rfl) (fun _ _ _ h => h) (Or.inl ⟨by rfl, ?hyb8⟩) (by assumption) ?restb8
        case hyb8 => (intro W hSw; (try dsimp only at hSw); go_simp; try with_reducible rfl)
        try simp only [Act.put, List.setIfInBounds_toArray, List.set_cons_zero, List.set_cons_succ]
        refine OrdJ.one (i := 9) (by kernel_rfl) rfl (fun K hK => ?_)
        go_simp
        go_at_call 14
        refine (hAf.out _).mono ?_
        rintro e w2 ⟨rfl, hb2⟩
        have hb2d := hb2
        have hS2 : (fun w' => w'.cell? ⟨g, q, none⟩ = some (.int .i64 z) ∧ w'.cell? ⟨wr.heap.size, 0, none⟩ = some (.int .i64 op) ∧ w'.cell? ⟨wr.heap.size, 1, none⟩ = some (.int .i64 nn) ∧ w'.cell? ⟨wr.heap.size, 2, none⟩ = some (.int .i64 m)) w2 := by
          (try dsimp only at hHeld ⊢); go_split_ands; refine ⟨?_, ?_, ?_, ?_⟩ <;> exact (hb2.cell (World.block_lt_of_cell? _ _ (by assumption))).trans (by assumption)
        have hf2 : w2.frozen? ⟨g, q, none⟩ = false := (hb2.frozen (p := ⟨g, q, none⟩) (by simp; omega)).trans (by simpa using hfz3)
        refine hK.out _ _ ⟨fun _ => hS2, ?_⟩
        clear hK K hHeld
        try simp only [Act.put, List.setIfInBounds_toArray, List.set_cons_zero, List.set_cons_succ]
        refine OrdJ.take (i := 10) (v := ?vb10) (ch := [12]) rfl rfl (by kernel_rfl) (by kernel_rfl) (by kernel_rfl) (by kernel_rfl) (by kernel_rfl) (fun _ _ _ h => h) (Or.inl ⟨by rfl, ?hyb10⟩) (by assumption) ?restb10
        case hyb10 => (intro W hSw; (try dsimp only at hSw); go_simp; try with_reducible rfl)
        try simp only [Act.put, List.setIfInBounds_toArray, List.set_cons_zero, List.set_cons_succ]
        refine OrdJ.take (i := 11) (v := ?vb11) (ch := [12]) rfl rfl (by kernel_rfl) (by kernel_rfl) (by kernel_rfl) (by kernel_rfl) (by kernel_rfl) (fun _ _ _ h => h) (Or.inl ⟨by rfl, ?hyb11⟩) (by assumption) ?restb11
        case hyb11 => (intro W hSw; (try dsimp only at hSw); go_simp; try with_reducible rfl)
        try simp only [Act.put, List.setIfInBounds_toArray, List.set_cons_zero, List.set_cons_succ]
        refine OrdJ.one (i := 12) (by kernel_rfl) rfl (fun K hK => ?_)
        have hc2 := hS2.1
        go_simp
        refine hK.out _ _ ⟨fun h => absurd rfl h, ?_⟩
        clear hK K
        try simp only [Act.put, List.setIfInBounds_toArray, List.set_cons_zero, List.set_cons_succ]
        refine OrdJ.done (by kernel_rfl) ?_
        go_wp2
        go_roundw
        case rel =>
          simp only [maxIf]
          obtain ⟨r1, r2, r3, r4, r5⟩ := REL.out w2 q (max (max z D) A) _ (below_then (below_alloc wr _).drew hb2d) rfl
          rw [HST.out] at r1
          exact ⟨k + 1, q + 1, q, _, by omega, by go_num, rfl, fun _ => by omega, by omega, .inr (by omega), HLN.out, r1, HNX, r2, r3, r4, r5⟩
        case measure => simp [intOf]; omega
    · obtain rfl : ol = k := by omega
      have hnil := List.drop_eq_nil_of_le (show ops.length ≤ ol by rw [← HO.out]; exact Nat.le_refl _)
      have hfin : RG = acc ∧ n = pr := by
        obtain ⟨a1, a2⟩ := hq.out
        rw [hnil] at a1 a2
        refine ⟨by rw [a1]; rfl, ?_⟩
        simp only [OC.proQ, decide_eq_true_eq] at a2
        omega
      obtain ⟨f1, f2⟩ := hfin
      have HF := Lib.hid f1
      subst f2
      clear hq f1
      go_wp2
      go_ret2
      refine ⟨?_, hbl⟩
      rw [HF.out, HACC.out]
      refine ⟨_, _, rfl, Nat.le_refl _, ?_⟩
      have h := HOWN.out
      rw [Nat.sub_self] at h
      exact Rd.of_owns (by simpa using h) (by rw [HACC.out]; omega)
theorem RoomP_c (c : OC.Code) (da oa ga : Option Addr) (dl dc ol oc gl gc : Nat) (w : World) (hc : CodeIn w c da oa ga dl dc ol oc gl gc) (hs : Small c) (hi : InstAt w) :
    Calls Tryd.prog 8 #[codeV c da oa ga dl dc ol oc gl gc] w fun e w' => ListE (roomA c) (checkQ c) e w' ∧ Below w.heap.size w w' :=
  (RoomF_c c da oa ga dl dc ol oc gl gc w hc hs hi).mono fun e w' h => by
    obtain ⟨⟨a, cap, h1, _, h2⟩, hb⟩ := h
    exact ⟨⟨_, h1, h2⟩, hb⟩
end Go.Proofs.YtfnkafnjpldaoaaDoor
