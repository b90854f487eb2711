/- Which entries are as said: the program's way. -/
import Derived.Test.YtfnkafnjpldaoaaDoorOcPk
import Derived.Test.YtfnkafnjpldaoaaDoorOcPj
import Derived.Test.YtfnkafnjpldaoaaDoorOcPl
import Derived.Test.YtfnkafnjpldaoaaDoorOcDe
import Derived.Test.YtfnkafnjpldaoaaDoorOcQm
namespace Go.Proofs.YtfnkafnjpldaoaaDoor
open Go.RowKit
set_option linter.unusedVariables false
set_option linter.unusedSimpArgs false
theorem known_zeroW (w : World) : (zeroValue 66).run Tryd.prog w = .ok (.agg (Array.replicate 200 (.bool false))) w := by kernel_rfl
theorem known_zero : ∃ zc : Array Value, (∀ w : World, (zeroValue 66).run Tryd.prog w = .ok (.agg zc) w) ∧ zc = Array.replicate 200 (.bool false) := ⟨_, known_zeroW, rfl⟩
def kn (pre : List OC.Ent) (j : Nat) : Bool := pre.any (fun x => decide (x.g = (j : Int)))
/-- which globals are known already -/
def KnownAt (W : World) (kb : Nat) (pre : List OC.Ent) : Prop := (∀ j, j < 200 → W.cell? ⟨kb, j, none⟩ = some (.bool (kn pre j))) ∧ (∀ j, W.frozen? ⟨kb, j, none⟩ = false) ∧ kb < W.heap.size
theorem KnownAt.new {zc : Array Value} (hz : zc = Array.replicate 200 (.bool false)) (W : World) (T : TypeId) : KnownAt (W.alloc (.cells zc T)) W.heap.size [] := by
  subst hz
  refine ⟨fun j hj => ?_, fun j => by simp, by simp⟩
  refine (World.cell?_alloc_at _ _ _ _ rfl).trans ?_
  simp [kn, hj]
theorem KnownAt.keep {W W' : World} {kb : Nat} {pre : List OC.Ent} (h : KnownAt W kb pre) (hb : Below W.heap.size W W') : KnownAt W' kb pre := by
  obtain ⟨h1, h2, h3⟩ := h
  refine ⟨fun j hj => (hb.cell (p := ⟨kb, j, none⟩) h3).trans (h1 j hj), fun j => (hb.frozen (p := ⟨kb, j, none⟩) h3).trans (h2 j), Nat.lt_of_lt_of_le h3 hb.size⟩
theorem KnownAt.set {W : World} {kb g : Nat} {p : Int} {pre : List OC.Ent} (h : KnownAt W kb pre) (hg : g < 200) : KnownAt (W.setCell ⟨kb, g, none⟩ (.bool true)) kb (pre ++ [⟨(g : Int), p⟩]) := by
  obtain ⟨h1, h2, h3⟩ := h
  refine ⟨fun j hj => ?_, fun j => by rw [World.frozen?_setCell]; exact h2 j, by simpa using h3⟩
  by_cases e : g = j
  · subst e
    rw [World.cell?_setCell_same _ _ _ (h1 g hj)]
    simp [kn]
  · rw [World.cell?_setCell_other _ _ _ _ (fun x => e (by injection x)), h1 j hj]
    have : ¬ (g : Int) = (j : Int) := by omega
    simp [kn, this]
theorem kn_all {pre : List OC.Ent} {g : Int} {j : Nat} (h : g = (j : Int)) : pre.all (fun x => decide (x.g ≠ g)) = !kn pre j := by
  subst h
  unfold kn
  rw [List.not_any_eq_all_not]
  congr 1
  funext x
  simp
theorem allow5 {nd procs labels p : Int} : OC.allowQ nd procs labels 5 p = OC.inB p 1 procs := by simp [OC.allowQ, OC.lowQ, OC.highQ, OC.inB]
set_option maxRecDepth 100000 in
set_option maxHeartbeats 4000000 in
theorem areEntriesP_c (c : OC.Code) (da oa ga : Option Addr) (dl dc ol oc gl gc : Nat) (w : World) (hc : CodeIn w c da oa ga dl dc ol oc gl gc) :
    Calls Tryd.prog 28 #[codeV c da oa ga dl dc ol oc gl gc] w fun e w' => e = .returned (.bool (OC.entB c.procs [] c.globals)) ∧ Below w.heap.size w w' := by
  obtain ⟨hdl, hdc, hdm⟩ := hc.data.len
  obtain ⟨hgl, hgc, hgm⟩ := hc.globals.len
  have HC := Lib.hid hc
  have HG := Lib.hid hgl
  have HA : Hid (∀ n W, Calls Tryd.prog 36 #[.int .i64 5, .int .i64 n, codeV c da oa ga dl dc ol oc gl gc] W fun e w' => e = .returned (.bool (OC.inB n 1 c.procs)) ∧ Below W.heap.size W w') := fun n W => by have h := allowsP_c c da oa ga dl dc ol oc gl gc 5 n W (by omega) hdm; rwa [allow5] at h
  obtain ⟨R, hR⟩ : ∃ x, OC.entB c.procs [] c.globals = x := ⟨_, rfl⟩
  have HR := Lib.hid hR
  rw [hR]
  obtain ⟨name, data, ops, globals, procs, labels⟩ := c
  dsimp only at *
  clear hR hc hdl hdc hdm hgl hgc
  obtain ⟨zc, hzv, hzc⟩ := known_zero
  have hzn : ¬ zc = #[] := fun e => by rw [hzc] at e; have := congrArg Array.size e; simp at this
  have HZC := Lib.hid hzc
  clear hzc
  go_enter Tryd.func28, Tryd.ntmps28
  go_wp2
  go_loopw [9] (fun i wr => ∃ (k : Nat), k ≤ gl ∧ i = .int .i64 k ∧ Hid (R = OC.entB procs (globals.take k) (globals.drop k)) ∧ KnownAt wr (w.heap.size + 1) (globals.take k) ∧ BoxC wr w.heap.size ⟨name, data, ops, globals, procs, labels⟩ da oa ga dl dc ol oc gl gc ∧ Below w.heap.size w wr) (fun i _ => gl - (intOf i).toNat)
  case atStart =>
    refine ⟨0, Nat.zero_le _, rfl, (show Hid _ from by show _ = _; rw [← HR.out]; simp), ?_, (BoxC.new w ⟨name, data, ops, globals, procs, labels⟩ da oa ga dl dc ol oc gl gc 26).keep (below_alloc _ _) (by simp), below_then (below_alloc _ _) (below_alloc _ _)⟩
    have h := KnownAt.new HZC.out (w.alloc (.cells #[.string ⟨name.toArray⟩, .slice da dl dc, .slice oa ol oc, .slice ga gl gc, .int .i64 procs, .int .i64 labels] 26)) 66
    rw [show (w.alloc (.cells #[.string ⟨name.toArray⟩, .slice da dl dc, .slice oa ol oc, .slice ga gl gc, .int .i64 procs, .int .i64 labels] 26)).heap.size = w.heap.size + 1 from by simp] at h
    simpa using h
  case round =>
    clear HR
    obtain ⟨k, hk, rfl, hq, hkn, hbox, hbl⟩ := hrel
    have HBOX := Lib.hid hbox
    have HKN := Lib.hid hkn
    obtain ⟨c0, c1, c2, c3, c4, c5⟩ := hbox
    by_cases hlt : k < gl
    · have HGI := Lib.hid (HC.out.keep hbl).globals
      obtain ⟨-, b, off, rfl, h0, h1⟩ := HGI.out.get hlt
      have hkl : k < globals.length := by rw [← HG.out]; exact hlt
      have hd := dropAt (d := OC.ez) hkl
      have htk : globals.take (k + 1) = globals.take k ++ [globals.getD k OC.ez] := by rw [List.take_succ_eq_append_getElem hkl, getD_at hkl]
      have hQ : R = (OC.inB (globals.getD k OC.ez).g 1 199 && OC.inB (globals.getD k OC.ez).p 1 procs && (globals.take k).all (fun x => decide (x.g ≠ (globals.getD k OC.ez).g)) && OC.entB procs (globals.take (k + 1)) (globals.drop (k + 1))) := by rw [hq.out, hd, htk]; rfl
      generalize globals.getD k OC.ez = x at *
      obtain ⟨g, p⟩ := x
      dsimp only at h0 h1 hQ htk
      have k1 : (k : Int) < (gl : Int) := by omega
      have hwz := HBOX.out.lt
      have hkz : w.heap.size + 1 < wr.heap.size := hkn.2.2
      have hbb : b < wr.heap.size := World.block_lt_of_cell? _ _ h0
      have hbb1 : b < wr.heap.size + 1 := by omega
      have hwz1 : w.heap.size < wr.heap.size + 1 := by omega
      have hkz1 : w.heap.size + 1 < wr.heap.size + 1 := by omega
      have HA1 : Hid (∀ W, Calls Tryd.prog 36 #[.int .i64 5, .int .i64 p, codeV ⟨name, data, ops, globals, procs, labels⟩ da oa (some ⟨b, off, none⟩) dl dc ol oc gl gc] W fun e w' => e = .returned (.bool (OC.inB p 1 procs)) ∧ Below W.heap.size W w') := fun W => HA.out p W
      clear hd hq hkl HA
      by_cases g1 : g < 1
      · have hf : Hid (R = false) := by show _ = _; rw [hQ]; simp [OC.inB]; omega
        clear hQ hkn
        go_wp2
        all_goals go_ret
        all_goals exact ⟨by rw [hf.out]; rfl, below_then hbl (below_alloc _ _)⟩
      by_cases g2 : 200 ≤ g
      · have hf : Hid (R = false) := by show _ = _; rw [hQ]; simp [OC.inB]; omega
        clear hQ hkn
        go_wp2
        all_goals go_ret
        all_goals exact ⟨by rw [hf.out]; rfl, below_then hbl (below_alloc _ _)⟩
      obtain ⟨j, hj⟩ : ∃ j : Nat, g = (j : Int) := ⟨g.toNat, by omega⟩
      subst hj
      have j2 : (j : Int) < 200 := by omega
      have hj2 : j < 200 := by omega
      have tk := hkn.1 j (by omega)
      have fk := hkn.2.1 j
      rw [kn_all (j := j) rfl] at hQ
      have hin : OC.inB (j : Int) 1 199 = true := inB_iff.2 (by omega)
      rw [hin] at hQ
      obtain ⟨KB, hKB⟩ : ∃ x, kn (globals.take k) j = x := ⟨_, rfl⟩
      obtain ⟨PB, hPB⟩ : ∃ x, OC.inB p 1 procs = x := ⟨_, rfl⟩
      rw [hKB] at tk hQ
      rw [hPB] at HA1 hQ
      clear hKB hPB hin hkn
      cases KB with
      | true =>
        have hf : Hid (R = false) := by show _ = _; rw [hQ]; simp
        clear hQ
        go_wp2
        all_goals go_ret
        all_goals exact ⟨by rw [hf.out]; rfl, below_then hbl (below_alloc _ _)⟩
      | false =>
        cases PB with
        | false =>
          have hf : Hid (R = false) := by show _ = _; rw [hQ]; simp
          clear hQ
          go_wp2_with (go_at_call 36; refine (HA1.out _).mono ?_; rintro e w1 ⟨rfl, hb1⟩; obtain ⟨hcc1, hff1⟩ := bcell hb1)
          all_goals go_ret
          all_goals exact ⟨by rw [hf.out]; rfl, below_then (below_then hbl (below_alloc _ _)) hb1⟩
        | true =>
          have hnext : Hid (R = OC.entB procs (globals.take (k + 1)) (globals.drop (k + 1))) := by show _ = _; rw [hQ]; simp
          clear hQ
          have HTK := Lib.hid htk
          clear htk
          go_wp2_with (go_at_call 36; refine (HA1.out _).mono ?_; rintro e w1 ⟨rfl, hb1⟩; obtain ⟨hcc1, hff1⟩ := bcell hb1)
          all_goals go_roundw
          all_goals first
            | (case rel =>
                have hB2 := below_then (below_alloc wr _) hb1
                refine ⟨k + 1, by omega, by go_num, hnext, ?_, ?_, Below.setCell (below_then (below_then hbl (below_alloc _ _)) hb1) (by simp) _⟩
                · rw [HTK.out]; exact KnownAt.set (HKN.out.keep hB2) hj2
                · have hk2 := HBOX.out.keep hB2 hwz
                  exact ⟨(set_other _ _ _ _ _ _ (by omega)).trans hk2.1, (set_other _ _ _ _ _ _ (by omega)).trans hk2.2.1, (set_other _ _ _ _ _ _ (by omega)).trans hk2.2.2.1, (set_other _ _ _ _ _ _ (by omega)).trans hk2.2.2.2.1, (set_other _ _ _ _ _ _ (by omega)).trans hk2.2.2.2.2.1, (set_other _ _ _ _ _ _ (by omega)).trans hk2.2.2.2.2.2⟩)
            | (simp [intOf]; omega)
    · obtain rfl : gl = k := by omega
      have hfin : Hid (R = true) := by show _ = _; rw [hq.out, List.drop_eq_nil_of_le (by rw [← HG.out]; exact Nat.le_refl _)]; rfl
      clear hq hkn
      go_wp2
      all_goals go_ret
      all_goals exact ⟨by rw [hfin.out]; rfl, hbl⟩
end Go.Proofs.YtfnkafnjpldaoaaDoor
namespace Go.Proofs.YtfnkafnjpldaoaaDoor
open Go.RowKit
set_option linter.unusedVariables false
set_option linter.unusedSimpArgs false
theorem label_bd {nd procs labels : Int} {o : OC.Op} (h : OC.numB nd procs labels o = true) : OC.label o = 0 ∨ (1 ≤ OC.label o ∧ OC.label o ≤ labels) := label_of_numB h
/-- what stands at the end: the greatest label is there -/
def lastQ (labels : Int) (H : List Int) : Bool := decide (labels = 0) || (decide (0 < labels) && decide (H.getD labels.toNat 0 ≠ 0))
theorem labQ_none {labels : Int} {ops : List OC.Op} (h : OC.homQ 0 ops (List.replicate ((max labels 0).toNat + 1) 0) = none) : OC.labQ labels ops = false := by unfold OC.labQ; rw [h]
theorem labQ_some {labels : Int} {ops : List OC.Op} {H : List Int} (h : OC.homQ 0 ops (List.replicate ((max labels 0).toNat + 1) 0) = some H) : OC.labQ labels ops = (OC.namQ H (OC.lstP 0 ops) ops && lastQ labels H) := by unfold OC.labQ; rw [h]; rfl
set_option maxRecDepth 100000 in
set_option maxHeartbeats 16000000 in
theorem haveLabelsP_c (c : OC.Code) (da oa ga : Option Addr) (dl dc ol oc gl gc : Nat) (w : World) (hc : CodeIn w c da oa ga dl dc ol oc gl gc) (hi : InstAt w) (hn : ∀ o ∈ c.ops, OC.numB c.data.length c.procs c.labels o = true) (hlm : c.labels ≤ 20000) (hom : ol ≤ 40100) :
    Calls Tryd.prog 26 #[codeV c da oa ga dl dc ol oc gl gc] w fun e w' => e = .returned (.bool (OC.labQ c.labels c.ops)) ∧ Below w.heap.size w w' := by
  obtain ⟨hol, hoc, -⟩ := hc.ops.len
  have HC := Lib.hid hc
  have HI := Lib.hid hi
  have HO := Lib.hid hol
  have HN : Hid (∀ o ∈ c.ops, (1 ≤ o.op ∧ o.op ≤ 30) ∧ (o.op = 19 → 1 ≤ o.n ∧ o.n ≤ c.labels) ∧ (OC.label o = 0 ∨ (1 ≤ OC.label o ∧ OC.label o ≤ c.labels))) := fun o ho => by
    have h := hn o ho
    have hb := numB_bd h
    refine ⟨⟨hb.1, hb.2.1⟩, fun e => ?_, label_bd h⟩
    exact lbs_of_numB hn o.n (mem_lbs.2 ⟨o, ho, e, rfl⟩)
  obtain ⟨ii, hi1, hz0, hz1, hz2⟩ := info_parts int_info
  have HII := Lib.hid hi1
  have HZ0 := Lib.hid hz0
  have HZ1 := Lib.hid hz1
  have HZ2 := Lib.hid hz2
  clear hi1 hz0 hz1 hz2
  obtain ⟨R, hR⟩ : ∃ x, OC.labQ c.labels c.ops = x := ⟨_, rfl⟩
  have HRN : Hid (OC.homQ 0 c.ops (List.replicate ((max c.labels 0).toNat + 1) 0) = none → R = false) := fun h => by rw [← hR]; exact labQ_none h
  have HRS : Hid (∀ H, OC.homQ 0 c.ops (List.replicate ((max c.labels 0).toNat + 1) 0) = some H → R = (OC.namQ H (OC.lstP 0 c.ops) c.ops && lastQ c.labels H)) := fun H h => by rw [← hR]; exact labQ_some h
  rw [hR]
  obtain ⟨name, data, ops, globals, procs, labels⟩ := c
  dsimp only at *
  obtain ⟨mx, hmx⟩ : ∃ mx : Nat, (max labels 0).toNat = mx := ⟨_, rfl⟩
  rw [hmx] at HRN HRS
  obtain ⟨lq, hlq⟩ : ∃ lq : Nat, mx + 1 = lq := ⟨_, rfl⟩
  rw [hlq] at HRN HRS
  have e0 : (if labels < 0 then (0 : Int) else labels) = (mx : Int) := by split <;> omega
  have e1 : (mx : Int) + 1 = (lq : Int) := by omega
  have mxb : mx ≤ 20000 := by omega
  have HLQ : Hid (∀ z : Int, 0 ≤ z → z ≤ labels → z < (lq : Int)) := fun z h0 h1 => by omega
  have lqb : lq ≤ 20001 := by omega
  clear hR hc hi hn hol hoc hmx hlq
  go_enter Tryd.func26, Tryd.ntmps26
  go_wp2_with (at_make; refine wpList_make_full _ rfl _ _ 29 rfl 0 3 ii (.int .i64 0) 1 Tryd.underlying29 HII.out HZ0.out HZ1.out .i64 .i64 _ _ lq rfl rfl rfl rfl (by rw [HZ2.out]; omega) (by unfold maxLen; omega) (Nat.zero_le _) ?_; intro w2 hown2 hg2; have HB2 := Lib.hid ((BoxC.new w ⟨name, data, ops, globals, procs, labels⟩ da oa ga dl dc ol oc gl gc 26).keep (below_grown hg2) (by simp)); have HBL := Lib.hid (below_then (below_alloc w _) (below_grown hg2)); obtain ⟨c0, c1, c2, c3, c4, c5⟩ := HB2.out)
  obtain ⟨g, hg⟩ : ∃ g, w.heap.size + 1 = g := ⟨_, rfl⟩
  have hgw : w.heap.size < g := by omega
  simp only [World.size_alloc] at hown2
  rw [hg] at hown2
  have HOW : Hid (w2.ownsRow 0 3 1 (.slice (some ⟨g, 0, none⟩) lq lq) lq ((List.replicate lq (0 : Int)).map (.int .i64))) := by show World.ownsRow _ _ _ _ _ _ _; rw [← zeros_eq]; exact hown2
  (try simp only [World.size_alloc])
  (try rw [hg])
  clear hg2 hown2 e0 e1 c0 c1 c2 c3 c4 c5
  go_wp2
  go_loopw [4, 18] (fun pv i wr => ∃ (k : Nat) (p : Int) (H : List Int), k ≤ ol ∧ i = .int .i64 k ∧ pv = .int .i64 p ∧ H.length = lq ∧ wr.ownsRow 0 3 1 (.slice (some ⟨g, 0, none⟩) lq lq) lq (H.map (.int .i64)) ∧ Hid (OC.homQ 0 ops (List.replicate lq 0) = OC.homQ p (ops.drop k) H ∧ OC.lstP 0 ops = OC.lstP p (ops.drop k)) ∧ (BoxC wr w.heap.size ⟨name, data, ops, globals, procs, labels⟩ da oa ga dl dc ol oc gl gc) ∧ Below w.heap.size w wr) (fun _ i _ => ol - (intOf i).toNat)
  case atStart => exact ⟨0, 0, List.replicate lq 0, Nat.zero_le _, rfl, rfl, by simp, HOW.out, ⟨rfl, rfl⟩, HB2.out, HBL.out⟩
  case round =>
    clear HB2 HBL HOW
    obtain ⟨k, p, H, hk, rfl, rfl, hHl, hown, hq, hbox, hbl⟩ := hrel
    have HBOX := Lib.hid hbox
    have hwz := hbox.lt
    have hgz : g < wr.heap.size := (hown.lt _ rfl).2
    have HOWN := Lib.hid hown
    have HHL := Lib.hid hHl
    obtain ⟨c0, c1, c2, c3, c4, c5⟩ := hbox
    by_cases hlt : k < ol
    · have HOI := Lib.hid (HC.out.keep hbl).ops
      obtain ⟨-, b, off, rfl, h0, h1, h2⟩ := HOI.out.get hlt
      have hbw : b < w.heap.size := by
        obtain ⟨-, b', off', e', q0, -, -⟩ := HC.out.ops.get hlt
        simp only [Option.some.injEq, Addr.mk.injEq] at e'
        obtain ⟨rfl, rfl, _⟩ := e'
        exact World.block_lt_of_cell? _ _ q0
      have hkl : k < ops.length := by rw [← HO.out]; exact hlt
      have hd := dropAt (d := OC.oz) hkl
      obtain ⟨nb1, nb2, nb3⟩ := HN.out _ (getD_map_range ops OC.oz hkl)
      generalize ops.getD k OC.oz = x at *
      have hq1 : OC.homQ 0 ops (List.replicate lq 0) = OC.homQ p (x :: ops.drop (k + 1)) H := by rw [hq.out.1, hd]
      have hq2 : OC.lstP 0 ops = OC.lstP (if x.op = 24 then x.n else p) (ops.drop (k + 1)) := by rw [hq.out.2, hd]; rfl
      rw [OC.homQ] at hq1
      obtain ⟨op, n, m⟩ := x
      dsimp only at h0 h1 h2 nb1 nb2 nb3 hq1 hq2
      have k1 : (k : Int) < (ol : Int) := by omega
      have hbb : b < wr.heap.size := by omega
      have hbb1 : b < wr.heap.size + 1 := by omega
      have hwz1 : w.heap.size < wr.heap.size + 1 := by omega
      have hgz1 : g < wr.heap.size + 1 := by omega
      clear hd hq hkl
      by_cases h24 : op = 24
      · have hnext : Hid (OC.homQ 0 ops (List.replicate lq 0) = OC.homQ n (ops.drop (k + 1)) H ∧ OC.lstP 0 ops = OC.lstP n (ops.drop (k + 1))) := ⟨by rw [hq1, if_pos h24], by rw [hq2, if_pos h24]⟩
        subst h24
        clear hq1 hq2 hown
        go_wp2
        all_goals go_roundw
        all_goals first | (case rel => exact ⟨k + 1, n, H, by omega, by go_num, rfl, HHL.out, owns_keep' HOWN.out (below_alloc _ _), hnext, HBOX.out.keep (below_alloc _ _) hwz, below_then hbl (below_alloc _ _)⟩) | (simp [intOf]; omega)
      have e24 : (op == 24) = false := by simpa using h24
      by_cases h19 : op = 19
      · subst h19
        rw [if_neg h24, if_pos rfl] at hq1
        rw [if_neg h24] at hq2
        obtain ⟨n1, n2⟩ := nb2 rfl
        obtain ⟨j, hj⟩ : ∃ j : Nat, n = (j : Int) := ⟨n.toNat, by omega⟩
        subst hj
        have j1 : (j : Int) < (lq : Int) := HLQ.out _ (by omega) n2
        have hjl : j < lq := by omega
        have hcell : wr.cell? ⟨g, j, none⟩ = some (.int .i64 (H.getD j 0)) := by rw [hown.cellAt j (by omega)]; simp [hHl, hjl]
        have hfz := hown.frozenAt j
        rw [Int.toNat_natCast] at hq1
        by_cases hz : H.getD j 0 = 0
        case neg =>
          have hfail : Hid (R = false) := HRN.out (by rw [hq1, if_pos (.inl hz)])
          have ez : (H.getD j 0 != 0) = true := by simpa using hz
          generalize H.getD j 0 = z at *
          clear hq1 hq2 hown hz HRN HRS
          go_wp2
          all_goals go_ret
          all_goals exact ⟨by rw [hfail.out]; rfl, below_then hbl (below_alloc _ _)⟩
        rw [hz] at hcell
        by_cases hend : k + 1 < ol
        · obtain ⟨-, b', off', e', g0, -, -⟩ := HOI.out.get hend
          simp only [Option.some.injEq, Addr.mk.injEq] at e'
          obtain ⟨rfl, rfl, _⟩ := e'
          have hY := nxd (l := ops) (k := k + 1) (by rw [← HO.out]; exact hend)
          rw [hY] at hq1
          generalize ops.getD (k + 1) OC.oz = y at *
          obtain ⟨yop, yn, ym⟩ := y
          dsimp only at g0 hq1
          have k2 : ((k : Int) + 1 == (ol : Int)) = false := by simp; omega
          have k3 : (k : Int) + 1 < (ol : Int) := by omega
          have HSD : Hid (∀ W, Calls Tryd.prog 37 #[.int .i64 yop] W fun e w' => e = .returned (.bool (decide (yop = 18 ∨ yop = 28 ∨ yop = 19))) ∧ W = w') := fun W => setsDepthP_c yop W
          by_cases hy : yop = 18 ∨ yop = 28 ∨ yop = 19
          · have hnext : Hid (OC.homQ 0 ops (List.replicate lq 0) = OC.homQ p (ops.drop (k + 1)) (H.set j p) ∧ OC.lstP 0 ops = OC.lstP p (ops.drop (k + 1))) := ⟨by rw [hq1, if_neg (fun hx => hx.elim (fun h => h hz) (fun h => h hy))], hq2⟩
            rw [decide_eq_true hy] at HSD
            clear hq1 hq2 hown hz HRN HRS hy hY
            go_wp2_with (go_at_call 37; refine (HSD.out _).mono ?_; rintro e w1 ⟨rfl, rfl⟩)
            go_roundw
            case rel =>
                  have hk2 : BoxC (wr.setCell ⟨g, j, none⟩ (.int .i64 p)) w.heap.size ⟨name, data, ops, globals, procs, labels⟩ da (some ⟨b, off, none⟩) ga dl dc ol oc gl gc := ⟨(set_other _ _ _ _ _ _ (by omega)).trans HBOX.out.1, (set_other _ _ _ _ _ _ (by omega)).trans HBOX.out.2.1, (set_other _ _ _ _ _ _ (by omega)).trans HBOX.out.2.2.1, (set_other _ _ _ _ _ _ (by omega)).trans HBOX.out.2.2.2.1, (set_other _ _ _ _ _ _ (by omega)).trans HBOX.out.2.2.2.2.1, (set_other _ _ _ _ _ _ (by omega)).trans HBOX.out.2.2.2.2.2⟩
                  exact ⟨k + 1, p, H.set j p, by omega, by go_num, rfl, by rw [List.length_set]; exact HHL.out, by rw [List.map_set]; exact owns_keep' (HOWN.out.stored j (.int .i64 p)).1 (below_alloc _ _), hnext, hk2.keep (below_alloc _ _) hk2.lt, below_then (hbl.setCell (p := ⟨g, j, none⟩) (by dsimp only; omega) _) (below_alloc _ _)⟩
            case measure => simp [intOf]; omega
          · have hfail : Hid (R = false) := HRN.out (by rw [hq1, if_pos (.inr hy)])
            rw [decide_eq_false hy] at HSD
            clear hq1 hq2 hown hz HRN HRS hy hY
            go_wp2_with (go_at_call 37; refine (HSD.out _).mono ?_; rintro e w1 ⟨rfl, rfl⟩)
            all_goals go_ret
            all_goals exact ⟨by rw [hfail.out]; rfl, below_then hbl (below_alloc _ _)⟩
        · have hY := nxe (l := ops) (k := k + 1) (by rw [← HO.out]; omega)
          have hfail : Hid (R = false) := HRN.out (by rw [hq1, hY, if_pos (.inr (by omega))])
          have k2 : ((k : Int) + 1 == (ol : Int)) = true := by simp; omega
          have k3 : (k : Int) + 1 = (ol : Int) := by omega
          clear hq1 hq2 hown hz HRN HRS hY
          go_wp2
          all_goals go_ret
          all_goals exact ⟨by rw [hfail.out]; rfl, below_then hbl (below_alloc _ _)⟩
      · have e19 : (op == 19) = false := by simpa using h19
        have hnext : Hid (OC.homQ 0 ops (List.replicate lq 0) = OC.homQ p (ops.drop (k + 1)) H ∧ OC.lstP 0 ops = OC.lstP p (ops.drop (k + 1))) := ⟨by rw [hq1, if_neg h24, if_neg h19], by rw [hq2, if_neg h24]⟩
        clear hq1 hq2 hown h24 h19
        go_wp2
        all_goals go_roundw
        all_goals first | (case rel => exact ⟨k + 1, p, H, by omega, by go_num, rfl, HHL.out, owns_keep' HOWN.out (below_alloc _ _), hnext, HBOX.out.keep (below_alloc _ _) hwz, below_then hbl (below_alloc _ _)⟩) | (simp [intOf]; omega)
    · obtain rfl : ol = k := by omega
      have hfin : OC.homQ 0 ops (List.replicate lq 0) = some H ∧ OC.lstP 0 ops = p := by
        have h := hq.out
        rw [List.drop_eq_nil_of_le (by rw [← HO.out]; exact Nat.le_refl _)] at h
        exact h
      have hRR := HRS.out H hfin.1
      rw [hfin.2] at hRR
      have HRR := Lib.hid hRR
      obtain ⟨WR, hWR⟩ : ∃ W, W = wr := ⟨_, rfl⟩
      subst hWR
      have HBW := Lib.hid hbl
      have HIW := Lib.hid (HI.out.keep hbl (Nat.le_refl _))
      have HCW := Lib.hid (HC.out.keep hbl)
      clear hq hfin hRR HRN HRS hbl hk hlt
      go_wp2
      clear c0 c1 c2 c3 c4 c5
      go_loopw [4, 65] (fun pv i wq => ∃ (k : Nat) (p : Int), k ≤ ol ∧ i = .int .i64 k ∧ pv = .int .i64 p ∧ Hid (R = (OC.namQ H p (ops.drop k) && lastQ labels H)) ∧ Below WR.heap.size WR wq) (fun _ i _ => ol - (intOf i).toNat)
      case atStart => exact ⟨0, p, Nat.zero_le _, rfl, rfl, HRR.out, Below.refl _ _⟩
      case round =>
        clear HRR
        obtain ⟨k, p, hk, rfl, rfl, hq, hbl⟩ := hrel
        obtain ⟨c0, c1, c2, c3, c4, c5⟩ := HBOX.out.keep hbl hwz
        have hwq := hbl.size
        have hOW := owns_keep' HOWN.out hbl
        by_cases hlt : k < ol
        · obtain ⟨-, b, off, rfl, h0, h1, h2⟩ := (HCW.out.keep hbl).ops.get hlt
          have hkl : k < ops.length := by rw [← HO.out]; exact hlt
          have hd := dropAt (d := OC.oz) hkl
          obtain ⟨nb1, nb2, nb3⟩ := HN.out _ (getD_map_range ops OC.oz hkl)
          generalize ops.getD k OC.oz = x at *
          have HNM : Hid (∀ W, InstAt W → Calls Tryd.prog 32 #[opVal x] W fun e w' => e = .returned (.int .i64 (OC.label x)) ∧ Below W.heap.size W w') := fun W hW => namedP_c x W hW (by omega) (by omega)
          have HIQ := Lib.hid (HIW.out.keep hbl (Nat.le_refl _))
          have hQ : R = ((decide (OC.label x = 0) || decide (H.getD (OC.label x).toNat 0 = (if x.op = 24 then x.n else p))) && OC.namQ H (if x.op = 24 then x.n else p) (ops.drop (k + 1)) && lastQ labels H) := by rw [hq.out, hd]; rfl
          obtain ⟨L, hL⟩ : ∃ L, OC.label x = L := ⟨_, rfl⟩
          rw [hL] at HNM nb3 hQ
          obtain ⟨op, n, m⟩ := x
          dsimp only at h0 h1 h2 nb1 hQ
          have k1 : (k : Int) < (ol : Int) := by omega
          have hbb : b < wr.heap.size := World.block_lt_of_cell? _ _ h0
          have hbb1 : b < wr.heap.size + 1 := by omega
          have hgz2 : g < wr.heap.size := by omega
          have hgz3 : g < wr.heap.size + 1 := by omega
          obtain ⟨p', hp'⟩ : ∃ p', (if op = 24 then n else p) = p' := ⟨_, rfl⟩
          rw [hp'] at hQ
          clear hd hq hkl hL nb2
          by_cases hL0 : L = 0
          · subst hL0
            have hnext : Hid (R = (OC.namQ H p' (ops.drop (k + 1)) && lastQ labels H)) := by show _ = _; rw [hQ]; simp
            clear hQ nb3
            by_cases h24 : op = 24
            · obtain rfl : n = p' := by rw [← hp', if_pos h24]
              subst h24
              clear hp'
              go_wp2_with (go_at_call 32; refine (HNM.out _ (HIQ.out.keep (below_alloc _ _) (Nat.le_refl _))).mono ?_; rintro e w1 ⟨rfl, hb1⟩; obtain ⟨hcc1, hff1⟩ := bcell hb1)
              all_goals go_roundw
              all_goals first | (case rel => exact ⟨k + 1, _, by omega, by go_num, rfl, hnext, below_then (below_then hbl (below_alloc _ _)) hb1⟩) | (simp [intOf]; omega)
            · obtain rfl : p = p' := by rw [← hp', if_neg h24]
              have e24 : (op == 24) = false := by simpa using h24
              clear hp' h24
              go_wp2_with (go_at_call 32; refine (HNM.out _ (HIQ.out.keep (below_alloc _ _) (Nat.le_refl _))).mono ?_; rintro e w1 ⟨rfl, hb1⟩; obtain ⟨hcc1, hff1⟩ := bcell hb1)
              all_goals go_roundw
              all_goals first | (case rel => exact ⟨k + 1, _, by omega, by go_num, rfl, hnext, below_then (below_then hbl (below_alloc _ _)) hb1⟩) | (simp [intOf]; omega)
          obtain ⟨j, hj⟩ : ∃ j : Nat, L = (j : Int) := ⟨L.toNat, by omega⟩
          subst hj
          have j1 : (j : Int) < (lq : Int) := HLQ.out _ (by omega) (by omega)
          have hjl : j < lq := by omega
          have hcell : wr.cell? ⟨g, j, none⟩ = some (.int .i64 (H.getD j 0)) := by rw [hOW.cellAt j (by omega)]; simp [HHL.out, hjl]
          have eL : ((j : Int) == 0) = false := by simpa using hL0
          have eL2 : ((j : Int) != 0) = true := by simpa using hL0
          have eL3 : ¬ j = 0 := by omega
          rw [Int.toNat_natCast] at hQ
          generalize H.getD j 0 = z at *
          by_cases hz : z = p'
          · have hnext : Hid (R = (OC.namQ H p' (ops.drop (k + 1)) && lastQ labels H)) := by show _ = _; rw [hQ]; simp [hz]
            subst hz
            clear hQ nb3 hOW
            by_cases h24 : op = 24
            · obtain rfl : n = z := by rw [← hp', if_pos h24]
              subst h24
              clear hp'
              go_wp2_with (go_at_call 32; refine (HNM.out _ (HIQ.out.keep (below_alloc _ _) (Nat.le_refl _))).mono ?_; rintro e w1 ⟨rfl, hb1⟩; obtain ⟨hcc1, hff1⟩ := bcell hb1)
              all_goals go_roundw
              all_goals first | (case rel => exact ⟨k + 1, _, by omega, by go_num, rfl, hnext, below_then (below_then hbl (below_alloc _ _)) hb1⟩) | (simp [intOf]; omega)
            · obtain rfl : p = z := by rw [← hp', if_neg h24]
              have e24 : (op == 24) = false := by simpa using h24
              clear hp' h24
              go_wp2_with (go_at_call 32; refine (HNM.out _ (HIQ.out.keep (below_alloc _ _) (Nat.le_refl _))).mono ?_; rintro e w1 ⟨rfl, hb1⟩; obtain ⟨hcc1, hff1⟩ := bcell hb1)
              all_goals go_roundw
              all_goals first | (case rel => exact ⟨k + 1, _, by omega, by go_num, rfl, hnext, below_then (below_then hbl (below_alloc _ _)) hb1⟩) | (simp [intOf]; omega)
          · have hfail : Hid (R = false) := by show _ = _; rw [hQ]; simp [hz]; intro h; exact absurd h (by omega)
            clear hQ nb3 hOW
            by_cases h24 : op = 24
            · obtain rfl : n = p' := by rw [← hp', if_pos h24]
              subst h24
              have ez : (z != n) = true := by simpa using hz
              have ez2 : (z == n) = false := by simpa using hz
              have ez3 : ¬ n = z := fun h => hz h.symm
              clear hp'
              go_wp2_with (go_at_call 32; refine (HNM.out _ (HIQ.out.keep (below_alloc _ _) (Nat.le_refl _))).mono ?_; rintro e w1 ⟨rfl, hb1⟩; obtain ⟨hcc1, hff1⟩ := bcell hb1)
              all_goals go_ret
              all_goals exact ⟨by rw [hfail.out]; rfl, below_then (below_then (below_then HBW.out hbl) (below_alloc _ _)) hb1⟩
            · obtain rfl : p = p' := by rw [← hp', if_neg h24]
              have e24 : (op == 24) = false := by simpa using h24
              have ez : (z != p) = true := by simpa using hz
              have ez2 : (z == p) = false := by simpa using hz
              have ez3 : ¬ p = z := fun h => hz h.symm
              clear hp' h24
              go_wp2_with (go_at_call 32; refine (HNM.out _ (HIQ.out.keep (below_alloc _ _) (Nat.le_refl _))).mono ?_; rintro e w1 ⟨rfl, hb1⟩; obtain ⟨hcc1, hff1⟩ := bcell hb1)
              all_goals go_ret
              all_goals exact ⟨by rw [hfail.out]; rfl, below_then (below_then (below_then HBW.out hbl) (below_alloc _ _)) hb1⟩
        · obtain rfl : ol = k := by omega
          have hfin : R = lastQ labels H := by
            rw [hq.out, List.drop_eq_nil_of_le (by rw [← HO.out]; exact Nat.le_refl _)]; rfl
          clear hq
          unfold lastQ at hfin
          by_cases hl0 : labels = 0
          · have hf : Hid (R = true) := by show _ = _; rw [hfin]; simp [hl0]
            subst hl0
            clear hfin hOW
            go_wp2
            all_goals go_ret
            all_goals exact ⟨by rw [hf.out]; rfl, below_then HBW.out hbl⟩
          have el0 : (labels == 0) = false := by simpa using hl0
          by_cases hl1 : 0 < labels
          · obtain ⟨j, hj⟩ : ∃ j : Nat, labels = (j : Int) := ⟨labels.toNat, by omega⟩
            subst hj
            have j1 : (j : Int) < (lq : Int) := HLQ.out _ (by omega) (by omega)
            have hjl : j < lq := by omega
            have hcell : wr.cell? ⟨g, j, none⟩ = some (.int .i64 (H.getD j 0)) := by rw [hOW.cellAt j (by omega)]; simp [HHL.out, hjl]
            rw [Int.toNat_natCast] at hfin
            have hj0 : ¬ j = 0 := by omega
            generalize H.getD j 0 = z at *
            by_cases hz : z = 0
            · have hf : Hid (R = false) := by show _ = _; rw [hfin]; simp [hz, hj0]
              subst hz
              clear hfin hOW hl0
              go_wp2
              all_goals go_ret
              all_goals exact ⟨by rw [hf.out]; rfl, below_then HBW.out hbl⟩
            · have hf : Hid (R = true) := by show _ = _; rw [hfin, decide_eq_true hl1, decide_eq_true (show z ≠ 0 from hz)]; simp
              have ez : (z != 0) = true := by simpa using hz
              clear hfin hOW hl0 hz
              go_wp2
              all_goals go_ret
              all_goals exact ⟨by rw [hf.out]; rfl, below_then HBW.out hbl⟩
          · have hf : Hid (R = false) := by show _ = _; rw [hfin]; simp [hl0, hl1]
            clear hfin hOW hl0
            go_wp2
            all_goals go_ret
            all_goals exact ⟨by rw [hf.out]; rfl, below_then HBW.out hbl⟩
end Go.Proofs.YtfnkafnjpldaoaaDoor
namespace Go.Proofs.YtfnkafnjpldaoaaDoor
open Go.RowKit
set_option linter.unusedVariables false
set_option linter.unusedSimpArgs false
theorem within_bd {c : OC.Code} (h : OC.withinQ c = true) : c.ops.length ≤ 40000 ∧ c.data.length ≤ 2000 ∧ c.procs ≤ 200 ∧ c.labels ≤ 20000 := by
  unfold OC.withinQ at h
  simp only [Bool.and_eq_true, decide_eq_true_eq] at h
  omega
theorem nums_of {c : OC.Code} (hw : OC.withinQ c = true) (h : c.ops.all (OC.numQ c.data.length c.procs c.labels) = true) : NumOk c := fun o ho => by
  obtain ⟨h1, h2, h3, h4⟩ := within_bd hw
  rw [← numQ_eq (by omega) (by omega) (by omega)]
  exact List.all_eq_true.1 h o ho
set_option maxRecDepth 100000 in
set_option maxHeartbeats 8000000 in
theorem isCodeP_c (c : OC.Code) (da oa ga : Option Addr) (dl dc ol oc gl gc : Nat) (w : World) (hc : CodeIn w c da oa ga dl dc ol oc gl gc) (hs : Small c) (hi : InstAt w) (hw : OC.withinQ c = true) :
    Calls Tryd.prog 16 #[codeV c da oa ga dl dc ol oc gl gc] w fun e w' => e = .returned (.bool (isCodeQ c)) ∧ Below w.heap.size w w' := by
  obtain ⟨hol, hoc, hom⟩ := hc.ops.len
  have HC := Lib.hid hc
  have HI := Lib.hid hi
  obtain ⟨wb1, wb2, wb3, wb4⟩ := within_bd hw
  have hnm := hc.name
  have hT : ∀ d ∈ c.data, d.text.length ≤ 2000 ∧ d.words.length ≤ 2000 := fun d hd => by have := wsum_at hd; have := hs.weight; omega
  obtain ⟨S, hS⟩ : ∃ S, (LX.quoteR c.name).1 = S := ⟨_, rfl⟩
  obtain ⟨E, hE⟩ : ∃ E, (LX.quoteR c.name).2 = E := ⟨_, rfl⟩
  have HQ : Hid (∀ W, Calls Tryd.prog 22 #[.string ⟨c.name.toArray⟩] W fun e w' => e = .returned (.tuple #[.string ⟨S.toArray⟩, .int .i64 (E : Int)]) ∧ Below W.heap.size W w') := fun W => by have h := quoteP_c c.name W hnm; rwa [hS, hE] at h
  have HNU0 : Hid (∀ W, CodeIn W c da oa ga dl dc ol oc gl gc → InstAt W → Calls Tryd.prog 23 #[codeV c da oa ga dl dc ol oc gl gc] W fun e w' => e = .returned (.bool (c.ops.all (OC.numQ c.data.length c.procs c.labels))) ∧ Below W.heap.size W w') := fun W h1 h2 => haveNumbersP_c c da oa ga dl dc ol oc gl gc W h1 h2
  have HPR0 : Hid (∀ W, CodeIn W c da oa ga dl dc ol oc gl gc → Calls Tryd.prog 25 #[codeV c da oa ga dl dc ol oc gl gc] W fun e w' => e = .returned (.bool (OC.proQ c.procs 0 c.ops)) ∧ Below W.heap.size W w') := fun W h1 => haveProceduresP_c c da oa ga dl dc ol oc gl gc W h1 (by omega)
  have HAR0 : Hid (∀ W, RdD W (.slice da dl dc) c.data → Calls Tryd.prog 27 #[.slice da dl dc] W fun e w' => e = .returned (.bool (c.data.all datOk)) ∧ Below W.heap.size W w') := fun W h1 => areAreasP_c c.data da dl dc W h1 hT
  have HEN0 : Hid (∀ W, CodeIn W c da oa ga dl dc ol oc gl gc → Calls Tryd.prog 28 #[codeV c da oa ga dl dc ol oc gl gc] W fun e w' => e = .returned (.bool (OC.entB c.procs [] c.globals)) ∧ Below W.heap.size W w') := fun W h1 => areEntriesP_c c da oa ga dl dc ol oc gl gc W h1
  obtain ⟨B2, hB2⟩ : ∃ x, c.ops.all (OC.numQ c.data.length c.procs c.labels) = x := ⟨_, rfl⟩
  obtain ⟨B3, hB3⟩ : ∃ x, OC.casQ 0 c.ops = x := ⟨_, rfl⟩
  obtain ⟨B4, hB4⟩ : ∃ x, OC.proQ c.procs 0 c.ops = x := ⟨_, rfl⟩
  obtain ⟨B5, hB5⟩ : ∃ x, OC.labQ c.labels c.ops = x := ⟨_, rfl⟩
  obtain ⟨B6, hB6⟩ : ∃ x, c.data.all datOk = x := ⟨_, rfl⟩
  obtain ⟨B7, hB7⟩ : ∃ x, OC.entB c.procs [] c.globals = x := ⟨_, rfl⟩
  have HCA0 : Hid (∀ W, B2 = true → RdO W (.slice oa ol oc) c.ops → Calls Tryd.prog 24 #[.slice oa ol oc] W fun e w' => e = .returned (.bool B3) ∧ Below W.heap.size W w') := fun W h0 h1 => by have h := haveCasesP_c c.ops oa ol oc W h1 (fun o ho => (numB_bd (nums_of hw (hB2.trans h0) o ho)).2.2.2.2); rwa [hB3] at h
  have HLA0 : Hid (∀ W, B2 = true → CodeIn W c da oa ga dl dc ol oc gl gc → InstAt W → Calls Tryd.prog 26 #[codeV c da oa ga dl dc ol oc gl gc] W fun e w' => e = .returned (.bool B5) ∧ Below W.heap.size W w') := fun W h0 h1 h2 => by have h := haveLabelsP_c c da oa ga dl dc ol oc gl gc W h1 h2 (nums_of hw (hB2.trans h0)) wb4 (by omega); rwa [hB5] at h
  have hres : isCodeQ c = (decide (E = 0) && B2 && B3 && B4 && B5 && B6 && B7) := by unfold isCodeQ; rw [hE, hB2, hB3, hB4, hB5, hB6, hB7]
  obtain ⟨R, hR⟩ : ∃ x, isCodeQ c = x := ⟨_, rfl⟩
  rw [hR] at hres ⊢
  rw [hB2] at HNU0
  rw [hB4] at HPR0
  rw [hB6] at HAR0
  rw [hB7] at HEN0
  obtain ⟨name, data, ops, globals, procs, labels⟩ := c
  dsimp only at *
  clear hR hc hs hi hw hS hE hB2 hB3 hB4 hB5 hB6 hB7 hnm hT hol hoc hom wb1 wb2 wb3 wb4
  by_cases hE0 : E = 0
  case neg =>
    have ee : ((E : Int) == 0) = false := by simp; omega
    have hf : Hid (R = false) := by show _ = _; rw [hres]; simp [hE0]
    clear hres hE0
    go_enter Tryd.func16, Tryd.ntmps16
    go_wp2_with (go_at_call 22; refine (HQ.out _).mono ?_; rintro e w1 ⟨rfl, hb1⟩; obtain ⟨hcc1, hff1⟩ := bcell hb1; have z1 := hb1.size; have zw1 : w.heap.size < w1.heap.size := (by first | omega | (simp at z1; omega)))
    all_goals go_ret
    all_goals exact ⟨by rw [hf.out]; rfl, (below_then (below_alloc w _) hb1)⟩
  subst hE0
  cases B2 with
  | false =>
    have hf : Hid (R = false) := by show _ = _; rw [hres]; simp
    clear hres
    have HNU := Lib.hid HNU0.out
    go_enter Tryd.func16, Tryd.ntmps16
    go_wp2_with (first
      | (go_at_call 22; refine (HQ.out _).mono ?_; rintro e w1 ⟨rfl, hb1⟩; obtain ⟨hcc1, hff1⟩ := bcell hb1; have z1 := hb1.size; have zw1 : w.heap.size < w1.heap.size := (by first | omega | (simp at z1; omega)))
      | (go_at_call 23; refine (HNU.out _ (HC.out.keep (below_then (below_alloc w _) hb1)) (HI.out.keep (below_then (below_alloc w _) hb1) (Nat.le_refl _))).mono ?_; rintro e w2 ⟨rfl, hb2⟩; obtain ⟨hcc2, hff2⟩ := bcell hb2; have z2 := hb2.size; have zw2 : w.heap.size < w2.heap.size := (by first | omega | (simp at z2; omega))))
    all_goals go_ret
    all_goals exact ⟨by rw [hf.out]; rfl, (below_then (below_then (below_alloc w _) hb1) hb2)⟩
  | true =>
    cases B3 with
    | false =>
      have hf : Hid (R = false) := by show _ = _; rw [hres]; simp
      clear hres
      have HNU := Lib.hid HNU0.out
      have HCA := Lib.hid (fun W => HCA0.out W rfl)
      go_enter Tryd.func16, Tryd.ntmps16
      go_wp2_with (first
        | (go_at_call 22; refine (HQ.out _).mono ?_; rintro e w1 ⟨rfl, hb1⟩; obtain ⟨hcc1, hff1⟩ := bcell hb1; have z1 := hb1.size; have zw1 : w.heap.size < w1.heap.size := (by first | omega | (simp at z1; omega)))
        | (go_at_call 23; refine (HNU.out _ (HC.out.keep (below_then (below_alloc w _) hb1)) (HI.out.keep (below_then (below_alloc w _) hb1) (Nat.le_refl _))).mono ?_; rintro e w2 ⟨rfl, hb2⟩; obtain ⟨hcc2, hff2⟩ := bcell hb2; have z2 := hb2.size; have zw2 : w.heap.size < w2.heap.size := (by first | omega | (simp at z2; omega)))
        | (go_at_call 24; refine (HCA.out _ (HC.out.keep (below_then (below_then (below_alloc w _) hb1) hb2)).ops).mono ?_; rintro e w3 ⟨rfl, hb3⟩; obtain ⟨hcc3, hff3⟩ := bcell hb3; have z3 := hb3.size; have zw3 : w.heap.size < w3.heap.size := (by first | omega | (simp at z3; omega))))
      all_goals go_ret
      all_goals exact ⟨by rw [hf.out]; rfl, (below_then (below_then (below_then (below_alloc w _) hb1) hb2) hb3)⟩
    | true =>
      cases B4 with
      | false =>
        have hf : Hid (R = false) := by show _ = _; rw [hres]; simp
        clear hres
        have HNU := Lib.hid HNU0.out
        have HCA := Lib.hid (fun W => HCA0.out W rfl)
        have HPR := Lib.hid HPR0.out
        go_enter Tryd.func16, Tryd.ntmps16
        go_wp2_with (first
          | (go_at_call 22; refine (HQ.out _).mono ?_; rintro e w1 ⟨rfl, hb1⟩; obtain ⟨hcc1, hff1⟩ := bcell hb1; have z1 := hb1.size; have zw1 : w.heap.size < w1.heap.size := (by first | omega | (simp at z1; omega)))
          | (go_at_call 23; refine (HNU.out _ (HC.out.keep (below_then (below_alloc w _) hb1)) (HI.out.keep (below_then (below_alloc w _) hb1) (Nat.le_refl _))).mono ?_; rintro e w2 ⟨rfl, hb2⟩; obtain ⟨hcc2, hff2⟩ := bcell hb2; have z2 := hb2.size; have zw2 : w.heap.size < w2.heap.size := (by first | omega | (simp at z2; omega)))
          | (go_at_call 24; refine (HCA.out _ (HC.out.keep (below_then (below_then (below_alloc w _) hb1) hb2)).ops).mono ?_; rintro e w3 ⟨rfl, hb3⟩; obtain ⟨hcc3, hff3⟩ := bcell hb3; have z3 := hb3.size; have zw3 : w.heap.size < w3.heap.size := (by first | omega | (simp at z3; omega)))
          | (go_at_call 25; refine (HPR.out _ (HC.out.keep (below_then (below_then (below_then (below_alloc w _) hb1) hb2) hb3))).mono ?_; rintro e w4 ⟨rfl, hb4⟩; obtain ⟨hcc4, hff4⟩ := bcell hb4; have z4 := hb4.size; have zw4 : w.heap.size < w4.heap.size := (by first | omega | (simp at z4; omega))))
        all_goals go_ret
        all_goals exact ⟨by rw [hf.out]; rfl, (below_then (below_then (below_then (below_then (below_alloc w _) hb1) hb2) hb3) hb4)⟩
      | true =>
        cases B5 with
        | false =>
          have hf : Hid (R = false) := by show _ = _; rw [hres]; simp
          clear hres
          have HNU := Lib.hid HNU0.out
          have HCA := Lib.hid (fun W => HCA0.out W rfl)
          have HPR := Lib.hid HPR0.out
          have HLA := Lib.hid (fun W => HLA0.out W rfl)
          go_enter Tryd.func16, Tryd.ntmps16
          go_wp2_with (first
            | (go_at_call 22; refine (HQ.out _).mono ?_; rintro e w1 ⟨rfl, hb1⟩; obtain ⟨hcc1, hff1⟩ := bcell hb1; have z1 := hb1.size; have zw1 : w.heap.size < w1.heap.size := (by first | omega | (simp at z1; omega)))
            | (go_at_call 23; refine (HNU.out _ (HC.out.keep (below_then (below_alloc w _) hb1)) (HI.out.keep (below_then (below_alloc w _) hb1) (Nat.le_refl _))).mono ?_; rintro e w2 ⟨rfl, hb2⟩; obtain ⟨hcc2, hff2⟩ := bcell hb2; have z2 := hb2.size; have zw2 : w.heap.size < w2.heap.size := (by first | omega | (simp at z2; omega)))
            | (go_at_call 24; refine (HCA.out _ (HC.out.keep (below_then (below_then (below_alloc w _) hb1) hb2)).ops).mono ?_; rintro e w3 ⟨rfl, hb3⟩; obtain ⟨hcc3, hff3⟩ := bcell hb3; have z3 := hb3.size; have zw3 : w.heap.size < w3.heap.size := (by first | omega | (simp at z3; omega)))
            | (go_at_call 25; refine (HPR.out _ (HC.out.keep (below_then (below_then (below_then (below_alloc w _) hb1) hb2) hb3))).mono ?_; rintro e w4 ⟨rfl, hb4⟩; obtain ⟨hcc4, hff4⟩ := bcell hb4; have z4 := hb4.size; have zw4 : w.heap.size < w4.heap.size := (by first | omega | (simp at z4; omega)))
            | (go_at_call 26; refine (HLA.out _ (HC.out.keep (below_then (below_then (below_then (below_then (below_alloc w _) hb1) hb2) hb3) hb4)) (HI.out.keep (below_then (below_then (below_then (below_then (below_alloc w _) hb1) hb2) hb3) hb4) (Nat.le_refl _))).mono ?_; rintro e w5 ⟨rfl, hb5⟩; obtain ⟨hcc5, hff5⟩ := bcell hb5; have z5 := hb5.size; have zw5 : w.heap.size < w5.heap.size := (by first | omega | (simp at z5; omega))))
          all_goals go_ret
          all_goals exact ⟨by rw [hf.out]; rfl, (below_then (below_then (below_then (below_then (below_then (below_alloc w _) hb1) hb2) hb3) hb4) hb5)⟩
        | true =>
          cases B6 with
          | false =>
            have hf : Hid (R = false) := by show _ = _; rw [hres]; simp
            clear hres
            have HNU := Lib.hid HNU0.out
            have HCA := Lib.hid (fun W => HCA0.out W rfl)
            have HPR := Lib.hid HPR0.out
            have HLA := Lib.hid (fun W => HLA0.out W rfl)
            have HAR := Lib.hid HAR0.out
            go_enter Tryd.func16, Tryd.ntmps16
            go_wp2_with (first
              | (go_at_call 22; refine (HQ.out _).mono ?_; rintro e w1 ⟨rfl, hb1⟩; obtain ⟨hcc1, hff1⟩ := bcell hb1; have z1 := hb1.size; have zw1 : w.heap.size < w1.heap.size := (by first | omega | (simp at z1; omega)))
              | (go_at_call 23; refine (HNU.out _ (HC.out.keep (below_then (below_alloc w _) hb1)) (HI.out.keep (below_then (below_alloc w _) hb1) (Nat.le_refl _))).mono ?_; rintro e w2 ⟨rfl, hb2⟩; obtain ⟨hcc2, hff2⟩ := bcell hb2; have z2 := hb2.size; have zw2 : w.heap.size < w2.heap.size := (by first | omega | (simp at z2; omega)))
              | (go_at_call 24; refine (HCA.out _ (HC.out.keep (below_then (below_then (below_alloc w _) hb1) hb2)).ops).mono ?_; rintro e w3 ⟨rfl, hb3⟩; obtain ⟨hcc3, hff3⟩ := bcell hb3; have z3 := hb3.size; have zw3 : w.heap.size < w3.heap.size := (by first | omega | (simp at z3; omega)))
              | (go_at_call 25; refine (HPR.out _ (HC.out.keep (below_then (below_then (below_then (below_alloc w _) hb1) hb2) hb3))).mono ?_; rintro e w4 ⟨rfl, hb4⟩; obtain ⟨hcc4, hff4⟩ := bcell hb4; have z4 := hb4.size; have zw4 : w.heap.size < w4.heap.size := (by first | omega | (simp at z4; omega)))
              | (go_at_call 26; refine (HLA.out _ (HC.out.keep (below_then (below_then (below_then (below_then (below_alloc w _) hb1) hb2) hb3) hb4)) (HI.out.keep (below_then (below_then (below_then (below_then (below_alloc w _) hb1) hb2) hb3) hb4) (Nat.le_refl _))).mono ?_; rintro e w5 ⟨rfl, hb5⟩; obtain ⟨hcc5, hff5⟩ := bcell hb5; have z5 := hb5.size; have zw5 : w.heap.size < w5.heap.size := (by first | omega | (simp at z5; omega)))
              | (go_at_call 27; refine (HAR.out _ (HC.out.keep (below_then (below_then (below_then (below_then (below_then (below_alloc w _) hb1) hb2) hb3) hb4) hb5)).data).mono ?_; rintro e w6 ⟨rfl, hb6⟩; obtain ⟨hcc6, hff6⟩ := bcell hb6; have z6 := hb6.size; have zw6 : w.heap.size < w6.heap.size := (by first | omega | (simp at z6; omega))))
            all_goals go_ret
            all_goals exact ⟨by rw [hf.out]; rfl, (below_then (below_then (below_then (below_then (below_then (below_then (below_alloc w _) hb1) hb2) hb3) hb4) hb5) hb6)⟩
          | true =>
            cases B7 with
            | false =>
              have hf : Hid (R = false) := by show _ = _; rw [hres]; simp
              clear hres
              have HNU := Lib.hid HNU0.out
              have HCA := Lib.hid (fun W => HCA0.out W rfl)
              have HPR := Lib.hid HPR0.out
              have HLA := Lib.hid (fun W => HLA0.out W rfl)
              have HAR := Lib.hid HAR0.out
              have HEN := Lib.hid HEN0.out
              go_enter Tryd.func16, Tryd.ntmps16
              go_wp2_with (first
                | (go_at_call 22; refine (HQ.out _).mono ?_; rintro e w1 ⟨rfl, hb1⟩; obtain ⟨hcc1, hff1⟩ := bcell hb1; have z1 := hb1.size; have zw1 : w.heap.size < w1.heap.size := (by first | omega | (simp at z1; omega)))
                | (go_at_call 23; refine (HNU.out _ (HC.out.keep (below_then (below_alloc w _) hb1)) (HI.out.keep (below_then (below_alloc w _) hb1) (Nat.le_refl _))).mono ?_; rintro e w2 ⟨rfl, hb2⟩; obtain ⟨hcc2, hff2⟩ := bcell hb2; have z2 := hb2.size; have zw2 : w.heap.size < w2.heap.size := (by first | omega | (simp at z2; omega)))
                | (go_at_call 24; refine (HCA.out _ (HC.out.keep (below_then (below_then (below_alloc w _) hb1) hb2)).ops).mono ?_; rintro e w3 ⟨rfl, hb3⟩; obtain ⟨hcc3, hff3⟩ := bcell hb3; have z3 := hb3.size; have zw3 : w.heap.size < w3.heap.size := (by first | omega | (simp at z3; omega)))
                | (go_at_call 25; refine (HPR.out _ (HC.out.keep (below_then (below_then (below_then (below_alloc w _) hb1) hb2) hb3))).mono ?_; rintro e w4 ⟨rfl, hb4⟩; obtain ⟨hcc4, hff4⟩ := bcell hb4; have z4 := hb4.size; have zw4 : w.heap.size < w4.heap.size := (by first | omega | (simp at z4; omega)))
                | (go_at_call 26; refine (HLA.out _ (HC.out.keep (below_then (below_then (below_then (below_then (below_alloc w _) hb1) hb2) hb3) hb4)) (HI.out.keep (below_then (below_then (below_then (below_then (below_alloc w _) hb1) hb2) hb3) hb4) (Nat.le_refl _))).mono ?_; rintro e w5 ⟨rfl, hb5⟩; obtain ⟨hcc5, hff5⟩ := bcell hb5; have z5 := hb5.size; have zw5 : w.heap.size < w5.heap.size := (by first | omega | (simp at z5; omega)))
                | (go_at_call 27; refine (HAR.out _ (HC.out.keep (below_then (below_then (below_then (below_then (below_then (below_alloc w _) hb1) hb2) hb3) hb4) hb5)).data).mono ?_; rintro e w6 ⟨rfl, hb6⟩; obtain ⟨hcc6, hff6⟩ := bcell hb6; have z6 := hb6.size; have zw6 : w.heap.size < w6.heap.size := (by first | omega | (simp at z6; omega)))
                | (go_at_call 28; refine (HEN.out _ (HC.out.keep (below_then (below_then (below_then (below_then (below_then (below_then (below_alloc w _) hb1) hb2) hb3) hb4) hb5) hb6))).mono ?_; rintro e w7 ⟨rfl, hb7⟩; obtain ⟨hcc7, hff7⟩ := bcell hb7; have z7 := hb7.size; have zw7 : w.heap.size < w7.heap.size := (by first | omega | (simp at z7; omega))))
              all_goals go_ret
              all_goals exact ⟨by rw [hf.out]; rfl, (below_then (below_then (below_then (below_then (below_then (below_then (below_then (below_alloc w _) hb1) hb2) hb3) hb4) hb5) hb6) hb7)⟩
            | true =>
              have hf : Hid (R = true) := by show _ = _; rw [hres]; rfl
              clear hres
              have HNU := Lib.hid HNU0.out
              have HCA := Lib.hid (fun W => HCA0.out W rfl)
              have HPR := Lib.hid HPR0.out
              have HLA := Lib.hid (fun W => HLA0.out W rfl)
              have HAR := Lib.hid HAR0.out
              have HEN := Lib.hid HEN0.out
              go_enter Tryd.func16, Tryd.ntmps16
              go_wp2_with (first
                | (go_at_call 22; refine (HQ.out _).mono ?_; rintro e w1 ⟨rfl, hb1⟩; obtain ⟨hcc1, hff1⟩ := bcell hb1; have z1 := hb1.size; have zw1 : w.heap.size < w1.heap.size := (by first | omega | (simp at z1; omega)))
                | (go_at_call 23; refine (HNU.out _ (HC.out.keep (below_then (below_alloc w _) hb1)) (HI.out.keep (below_then (below_alloc w _) hb1) (Nat.le_refl _))).mono ?_; rintro e w2 ⟨rfl, hb2⟩; obtain ⟨hcc2, hff2⟩ := bcell hb2; have z2 := hb2.size; have zw2 : w.heap.size < w2.heap.size := (by first | omega | (simp at z2; omega)))
                | (go_at_call 24; refine (HCA.out _ (HC.out.keep (below_then (below_then (below_alloc w _) hb1) hb2)).ops).mono ?_; rintro e w3 ⟨rfl, hb3⟩; obtain ⟨hcc3, hff3⟩ := bcell hb3; have z3 := hb3.size; have zw3 : w.heap.size < w3.heap.size := (by first | omega | (simp at z3; omega)))
                | (go_at_call 25; refine (HPR.out _ (HC.out.keep (below_then (below_then (below_then (below_alloc w _) hb1) hb2) hb3))).mono ?_; rintro e w4 ⟨rfl, hb4⟩; obtain ⟨hcc4, hff4⟩ := bcell hb4; have z4 := hb4.size; have zw4 : w.heap.size < w4.heap.size := (by first | omega | (simp at z4; omega)))
                | (go_at_call 26; refine (HLA.out _ (HC.out.keep (below_then (below_then (below_then (below_then (below_alloc w _) hb1) hb2) hb3) hb4)) (HI.out.keep (below_then (below_then (below_then (below_then (below_alloc w _) hb1) hb2) hb3) hb4) (Nat.le_refl _))).mono ?_; rintro e w5 ⟨rfl, hb5⟩; obtain ⟨hcc5, hff5⟩ := bcell hb5; have z5 := hb5.size; have zw5 : w.heap.size < w5.heap.size := (by first | omega | (simp at z5; omega)))
                | (go_at_call 27; refine (HAR.out _ (HC.out.keep (below_then (below_then (below_then (below_then (below_then (below_alloc w _) hb1) hb2) hb3) hb4) hb5)).data).mono ?_; rintro e w6 ⟨rfl, hb6⟩; obtain ⟨hcc6, hff6⟩ := bcell hb6; have z6 := hb6.size; have zw6 : w.heap.size < w6.heap.size := (by first | omega | (simp at z6; omega)))
                | (go_at_call 28; refine (HEN.out _ (HC.out.keep (below_then (below_then (below_then (below_then (below_then (below_then (below_alloc w _) hb1) hb2) hb3) hb4) hb5) hb6))).mono ?_; rintro e w7 ⟨rfl, hb7⟩; obtain ⟨hcc7, hff7⟩ := bcell hb7; have z7 := hb7.size; have zw7 : w.heap.size < w7.heap.size := (by first | omega | (simp at z7; omega))))
              all_goals go_ret
              all_goals exact ⟨by rw [hf.out]; rfl, (below_then (below_then (below_then (below_then (below_then (below_then (below_then (below_alloc w _) hb1) hb2) hb3) hb4) hb5) hb6) hb7)⟩
end Go.Proofs.YtfnkafnjpldaoaaDoor
