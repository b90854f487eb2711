/- Depths, what leads to a take, and the places of labels: the program's way. -/
import Derived.Test.YtfnkafnjpldaoaaDoorOcPv
import Derived.Deep.QuietTactic
import Derived.BigQuiet
import Derived.Test.YtfnkafnjpldaoaaDoorOcRo
namespace Go.Proofs.YtfnkafnjpldaoaaDoor
open Go.RowKit
set_option linter.unusedVariables false
set_option linter.unusedSimpArgs false
theorem after_bd2 {nd procs labels : Int} {x : OC.Op} {d : Int} (h : OC.numB nd procs labels x = true) : (d - 3 ≤ OC.after x d ∨ 0 ≤ OC.after x d) ∧ (OC.after x d ≤ d + 1 ∨ OC.after x d ≤ 4001) := by
  obtain ⟨op, n, m⟩ := x
  have h0 := h
  simp only [OC.numB, Bool.and_eq_true, inB_iff] at h0
  obtain ⟨⟨⟨⟨h1, -⟩, -⟩, -⟩, h2⟩ := h0
  clear h
  unfold OC.after
  dsimp only at h1 h2 ⊢
  by_cases a1 : op = 18
  · subst a1; simp [OC.inB] at h2 ⊢; omega
  by_cases a2 : op = 23
  · subst a2; simp [OC.inB] at h2 ⊢; omega
  by_cases a3 : op = 28
  · subst a3; simp [OC.inB] at h2 ⊢; omega
  by_cases a4 : op = 24
  · subst a4; simp [OC.inB] at h2 ⊢; omega
  (repeat' split) <;> omega
set_option maxRecDepth 100000 in
set_option maxHeartbeats 8000000 in
theorem depthsP_c (nd procs labels : Int) (ops : List OC.Op) (a : Option Addr) (len cap : Nat) (w : World) (hr : RdO w (.slice a len cap) ops) (hn : ∀ o ∈ ops, OC.numB nd procs labels o = true) (hm : len ≤ 40100) :
    Calls Tryd.prog 12 #[.slice a len cap] w fun e w' => (∃ g, e = .returned (.slice (some ⟨g, 0, none⟩) len len) ∧ w.heap.size ≤ g ∧ w'.ownsRow 0 3 1 (.slice (some ⟨g, 0, none⟩) len len) len ((depG 0 ops).map (.int .i64))) ∧ Below w.heap.size w w' := by
  obtain ⟨hl, hc, -⟩ := hr.len
  have HR := Lib.hid hr
  have HL := Lib.hid hl
  have HN := Lib.hid hn
  obtain ⟨ii, hi1, hz0, hz1, hz2⟩ := info_parts int_info
  have HII := Lib.hid hi1
  have HZ0 := Lib.hid hz0
  have HZ1 := Lib.hid hz1
  have HZ2 := Lib.hid hz2
  clear hi1 hz0 hz1 hz2
  obtain ⟨DG, hDG⟩ : ∃ x, depG 0 ops = x := ⟨_, rfl⟩
  have hdl : DG.length = len := by rw [← hDG, depG_len, hl]
  have HDG := Lib.hid hDG
  have HDL := Lib.hid hdl
  rw [hDG]
  clear hr hl hc hn hDG hdl
  go_enter Tryd.func12, Tryd.ntmps12
  go_wp2_with (at_make; refine wpList_make_full _ rfl _ _ 29 rfl 0 3 ii (.int .i64 0) 1 Tryd.underlying29 HII.out HZ0.out HZ1.out .i64 .i64 _ _ len rfl rfl rfl rfl (by rw [HZ2.out]; omega) (by unfold maxLen; omega) (Nat.zero_le _) ?_; intro w2 hown2 hg2)
  have HBL := Lib.hid (below_grown hg2)
  obtain ⟨g, hg⟩ : ∃ g, w.heap.size = g := ⟨_, rfl⟩
  have hgw : w.heap.size ≤ g := by omega
  rw [hg] at hown2
  have HOW : Hid (w2.ownsRow 0 3 1 (.slice (some ⟨g, 0, none⟩) len len) len ((List.replicate len (0 : Int)).map (.int .i64))) := by show World.ownsRow _ _ _ _ _ _ _; rw [← zeros_eq]; exact hown2
  rw [hg]
  have HG := Lib.hid hg
  clear hg2 hown2 hg
  go_wp2
  go_loopw [4, 12] (fun dv i wr => ∃ (k : Nat) (d : Int) (T : List Int), k ≤ len ∧ i = .int .i64 k ∧ dv = .int .i64 d ∧ -3 * (k : Int) ≤ d ∧ d ≤ 4001 + (k : Int) ∧ T.length = len ∧ wr.ownsRow 0 3 1 (.slice (some ⟨g, 0, none⟩) len len) len (T.map (.int .i64)) ∧ Hid (DG = T.take k ++ depG d (ops.drop k) ∧ ∀ j, k ≤ j → T.getD j 0 = 0) ∧ Below w.heap.size w wr) (fun _ i _ => len - (intOf i).toNat)
  case atStart => exact ⟨0, 0, List.replicate len 0, Nat.zero_le _, rfl, rfl, by omega, by omega, by simp, HOW.out, ⟨by rw [List.take_zero, ← HDG.out]; rfl, fun j _ => rep_getD _ _ _⟩, HBL.out⟩
  case round =>
    clear HBL HOW
    obtain ⟨k, d, T, hk, rfl, rfl, hd1, hd2, hTl, hown, hq, hbl⟩ := hrel
    have hgz : g < wr.heap.size := (hown.lt _ rfl).2
    have HOWN := Lib.hid hown
    have HTL := Lib.hid hTl
    have hblw := hbl
    by_cases hlt : k < len
    · have hat0 := HR.out.get hlt
      obtain ⟨-, b, off, rfl, h0, h1, h2⟩ := (show RdO wr (.slice a len cap) ops from HR.out.keep fun _ _ _ h => h.keep hblw).get hlt
      have hbw : b < g := by
        obtain ⟨-, b', off', e', q0, -, -⟩ := hat0
        simp only [Option.some.injEq, Addr.mk.injEq] at e'
        obtain ⟨rfl, rfl, _⟩ := e'
        have := World.block_lt_of_cell? _ _ q0
        have := HG.out
        dsimp only at *
        omega
      have hkl : k < ops.length := by rw [← HL.out]; exact hlt
      have hd := dropAt (d := OC.oz) hkl
      have hnb := HN.out _ (getD_map_range ops OC.oz hkl)
      generalize ops.getD k OC.oz = x at *
      obtain ⟨b1, b2, b3, b4, b5, b6⟩ := numB_bd hnb
      have hDGk : DG = T.take k ++ ((if x.op = 24 then 0 else d) :: depG (OC.after x (if x.op = 24 then 0 else d)) (ops.drop (k + 1))) := by rw [hq.out.1, hd]; rfl
      have hzero := hq.out.2
      have hab := after_bd2 (d := d) hnb
      have h24e : x.op = 24 → OC.after x d = OC.after x 0 := fun e => by
        obtain ⟨op, n, m⟩ := x
        dsimp only at e
        subst e
        simp [OC.after]
      have HBH : Hid (∀ W, Calls Tryd.prog 14 #[opVal x, .int .i64 d] W fun e w' => e = .returned (.int .i64 (OC.after x d)) ∧ Below W.heap.size W w') := fun W => behindP_c x d W (by omega) (by omega) (by omega) (by omega) (by omega) (by omega)
      obtain ⟨A, hA⟩ : ∃ A, OC.after x d = A := ⟨_, rfl⟩
      rw [hA] at HBH hab
      obtain ⟨op, n, m⟩ := x
      dsimp only at h0 h1 h2 b1 b2 b3 b4 b5 b6 hDGk h24e
      have k1 : (k : Int) < (len : Int) := by omega
      have hbb : b < wr.heap.size := by omega
      have hbb1 : b < wr.heap.size + 1 := by omega
      have hgz1 : g < wr.heap.size + 1 := by omega
      have mg : ¬ b = g := by omega
      clear hat0 hd hq hkl hnb
      by_cases h24 : op = 24
      · have hnext : Hid (DG = T.take (k + 1) ++ depG A (ops.drop (k + 1)) ∧ ∀ j, k + 1 ≤ j → T.getD j 0 = 0) := by
          refine ⟨?_, fun j hj => hzero j (by omega)⟩
          have e := h24e h24
          rw [hDGk, if_pos h24, ← e, hA]
          rw [List.take_succ_eq_append_getElem (by rw [HTL.out]; exact hlt), List.append_assoc]
          have := hzero k (Nat.le_refl _)
          rw [getD_at (by rw [HTL.out]; exact hlt)] at this
          rw [this]; rfl
        subst h24
        clear hDGk hzero hA h24e hown
        go_wp2_with (go_at_call 14; refine (HBH.out _).mono ?_; rintro e w3 ⟨rfl, hb3⟩)
        all_goals go_roundw
        all_goals first | (case rel => exact ⟨k + 1, A, T, by omega, by go_num, rfl, by omega, by omega, HTL.out, owns_keep' (owns_keep' HOWN.out (below_alloc _ _)) hb3, hnext, below_then (below_then hbl (below_alloc _ _)) hb3⟩) | (simp [intOf]; omega)
      · have e24 : (op == 24) = false := by simpa using h24
        have e24b : (op != 24) = true := by simpa using h24
        have hnext : Hid (DG = (T.set k d).take (k + 1) ++ depG A (ops.drop (k + 1)) ∧ ∀ j, k + 1 ≤ j → (T.set k d).getD j 0 = 0) := by
          refine ⟨?_, fun j hj => by rw [getD_set_ne (by omega)]; exact hzero j (by omega)⟩
          rw [hDGk, if_neg h24, hA]
          rw [List.take_succ_eq_append_getElem (by rw [List.length_set, HTL.out]; exact hlt), List.append_assoc]
          rw [List.take_set_of_le (Nat.le_refl k)]
          simp
        have hcell : wr.cell? ⟨g, k, none⟩ = some (.int .i64 (T.getD k 0)) := by rw [hown.cellAt k (by omega)]; simp [hTl, hlt]
        have hfz := hown.frozenAt k
        clear hDGk hzero hA h24e hown
        go_wp2_with (go_at_call 14; refine (HBH.out _).mono ?_; rintro e w3 ⟨rfl, hb3⟩)
        all_goals go_roundw
        all_goals first | (case rel => exact ⟨k + 1, A, T.set k d, by omega, by go_num, rfl, by omega, by omega, by rw [List.length_set]; exact HTL.out, by rw [List.map_set]; exact owns_keep' (owns_keep' (HOWN.out.stored k (.int .i64 d)).1 (below_alloc _ _)) hb3, hnext, below_then (below_then (hbl.setCell (p := ⟨g, k, none⟩) (by dsimp only; omega) _) (below_alloc _ _)) hb3⟩) | (simp [intOf]; omega)
    · obtain rfl : len = k := by omega
      have hfin : Hid (DG = T) := by
        show _ = _
        rw [hq.out.1, List.drop_eq_nil_of_le (by rw [← HL.out]; exact Nat.le_refl _), List.take_of_length_le (by rw [HTL.out]; exact Nat.le_refl _)]
        simp [depG]
      clear hq hown
      go_wp2
      all_goals go_ret
      all_goals exact ⟨⟨g, rfl, by rw [HG.out]; exact Nat.le_refl _, by rw [hfin.out]; exact HOWN.out⟩, hblw⟩
theorem bool_info : (Tryd.prog.info? 4).map (fun i => (i.zero, i.size, i.bytes)) = some (some (.bool false), 1, 1) := by kernel_rfl
theorem falses_eq (n : Nat) : (madeCells (Value.bool false).cells (n * 1)).toList = (List.replicate n false).map Value.bool := by
  show (madeCells #[Value.bool false] (n * 1)).toList = _
  rw [Nat.mul_one, toList_madeCells_one, List.map_replicate]
set_option maxRecDepth 100000 in
set_option maxHeartbeats 8000000 in
theorem leadingP_c (ops : List OC.Op) (a : Option Addr) (len cap : Nat) (w : World) (hr : RdO w (.slice a len cap) ops) (hf : ∀ k, k < ops.length → (ops.getD k OC.oz).op = 19 → k + 1 < ops.length) (hm : len ≤ 40100) :
    Calls Tryd.prog 30 #[.slice a len cap] w fun e w' => (∃ g, e = .returned (.slice (some ⟨g, 0, none⟩) len len) ∧ w.heap.size ≤ g ∧ (∀ j, j < len → w'.cell? ⟨g, j, none⟩ = some (.bool (OC.landsB (ops.drop j))))) ∧ Below w.heap.size w w' := by
  obtain ⟨hl, hc, -⟩ := hr.len
  have HR := Lib.hid hr
  have HL := Lib.hid hl
  have HF := Lib.hid hf
  obtain ⟨ii, hi1, hz0, hz1, hz2⟩ := info_parts bool_info
  have HII := Lib.hid hi1
  have HZ0 := Lib.hid hz0
  have HZ1 := Lib.hid hz1
  have HZ2 := Lib.hid hz2
  clear hi1 hz0 hz1 hz2
  clear hr hl hc hf
  go_enter Tryd.func30, Tryd.ntmps30
  go_wp2_with (at_make; refine wpList_make_full _ rfl _ _ 52 rfl 0 4 ii (.bool false) 1 Tryd.underlying52 HII.out HZ0.out HZ1.out .i64 .i64 _ _ len rfl rfl rfl rfl (by rw [HZ2.out]; omega) (by unfold maxLen; omega) (Nat.zero_le _) ?_; intro w2 hown2 hg2)
  have HBL := Lib.hid (below_grown hg2)
  obtain ⟨g, hg⟩ : ∃ g, w.heap.size = g := ⟨_, rfl⟩
  have hgw : w.heap.size ≤ g := by omega
  rw [hg] at hown2
  have HOW : Hid (w2.ownsRow 0 4 1 (.slice (some ⟨g, 0, none⟩) len len) len ((List.replicate len false).map .bool)) := by show World.ownsRow _ _ _ _ _ _ _; rw [← falses_eq]; exact hown2
  rw [hg]
  have HG := Lib.hid hg
  clear hg2 hown2 hg
  go_wp2
  go_loopw [4] (fun i wr => ∃ (k : Nat) (T : List Bool), k ≤ len ∧ i = .int .i64 ((k : Int) - 1) ∧ T.length = len ∧ wr.ownsRow 0 4 1 (.slice (some ⟨g, 0, none⟩) len len) len (T.map .bool) ∧ Hid (∀ j, k ≤ j → j < len → T.getD j false = OC.landsB (ops.drop j)) ∧ Below w.heap.size w wr) (fun i _ => (intOf i + 1).toNat)
  case atStart => exact ⟨len, List.replicate len false, Nat.le_refl _, rfl, by simp, HOW.out, (show Hid _ from fun j h1 h2 => by omega), HBL.out⟩
  case round =>
    clear HBL HOW
    obtain ⟨k, T, hk, rfl, hTl, hown, hq, hbl⟩ := hrel
    have hgz : g < wr.heap.size := (hown.lt _ rfl).2
    have HOWN := Lib.hid hown
    have HTL := Lib.hid hTl
    have hblw := hbl
    by_cases h0k : k = 0
    · subst h0k
      have hq0 := Lib.hid hq.out
      clear hown hq
      go_wp2
      all_goals go_ret
      all_goals exact ⟨⟨g, rfl, by rw [HG.out]; exact Nat.le_refl _, fun j hj => by rw [HOWN.out.cellAt j (by omega), ← hq0.out j (Nat.zero_le _) hj]; simp [hTl, hj]⟩, hblw⟩
    · obtain ⟨i, hi⟩ : ∃ i : Nat, k = i + 1 := ⟨k - 1, by omega⟩
      subst hi
      have hlt : i < len := by omega
      have hat0 := HR.out.get hlt
      obtain ⟨-, b, off, rfl, h0, h1, h2⟩ := (show RdO wr (.slice a len cap) ops from HR.out.keep fun _ _ _ h => h.keep hblw).get hlt
      have hbw : b < g := by
        obtain ⟨-, b', off', e', q0, -, -⟩ := hat0
        simp only [Option.some.injEq, Addr.mk.injEq] at e'
        obtain ⟨rfl, rfl, _⟩ := e'
        have := World.block_lt_of_cell? _ _ q0
        have := HG.out
        dsimp only at *
        omega
      have hkl : i < ops.length := by rw [← HL.out]; exact hlt
      have hd := dropAt (d := OC.oz) hkl
      have hlast := HF.out i hkl
      rw [← HL.out] at hlast
      generalize ops.getD i OC.oz = x at *
      have hlands : OC.landsB (ops.drop i) = if x.op = 19 then OC.landsB (ops.drop (i + 1)) else decide (x.op = 28) := by rw [hd]; rfl
      obtain ⟨op, n, m⟩ := x
      dsimp only at h0 h1 h2 hlast hlands
      have k0 : ((i : Int) + 1 - 1) = (i : Int) := by omega
      have k1 : (i : Int) < (len : Int) := by omega
      have hbb : b < wr.heap.size := by omega
      have mg : ¬ b = g := by omega
      have hcell : wr.cell? ⟨g, i, none⟩ = some (.bool (T.getD i false)) := by rw [hown.cellAt i (by omega)]; simp [hTl, hlt]
      have hfz := hown.frozenAt i
      have hset : ∀ B, OC.landsB (ops.drop i) = B → Hid (∀ j, i ≤ j → j < len → (T.set i B).getD j false = OC.landsB (ops.drop j)) := fun B hB j h1 h2 => by
        by_cases e : i = j
        · subst e; rw [hB, List.getD_eq_getElem?_getD]; simp [hTl, hlt]
        · rw [List.getD_eq_getElem?_getD, List.getElem?_set_ne e, ← List.getD_eq_getElem?_getD]; exact hq.out j (by omega) h2
      have push : ∀ B : Bool, ((i + 1 : Nat) : Int) - 1 = (i : Int) := fun _ => by omega
      have pushi : ((i + 1 : Nat) : Int) - 1 = (i : Int) := by omega
      rw [pushi]
      clear hat0 hd hkl push pushi
      by_cases h28 : op = 28
      · have hS := hset true (by rw [hlands, if_neg (by omega)]; simp [h28])
        subst h28
        clear hlands hq hown hset
        go_wp2
        all_goals go_roundw
        all_goals first | (case rel => exact ⟨i, T.set i true, by omega, by first | rfl | go_num, by rw [List.length_set]; exact HTL.out, by rw [List.map_set]; exact (HOWN.out.stored i (.bool true)).1, hS, hbl.setCell (p := ⟨g, i, none⟩) (by dsimp only; omega) _⟩) | (simp [intOf]; done) | (simp [intOf]; omega)
      have e28 : (op == 28) = false := by simpa using h28
      by_cases h19 : op = 19
      · have hend := hlast h19
        have hcell2 : wr.cell? ⟨g, i + 1, none⟩ = some (.bool (T.getD (i + 1) false)) := by rw [hown.cellAt (i + 1) (by omega)]; simp [hTl, hend]
        rw [hq.out (i + 1) (Nat.le_refl _) hend] at hcell2
        obtain ⟨B, hB⟩ : ∃ B, OC.landsB (ops.drop (i + 1)) = B := ⟨_, rfl⟩
        rw [hB] at hcell2
        have hS := hset B (by rw [hlands, if_pos h19, hB])
        have k3 : (i : Int) + 1 < (len : Int) := by omega
        subst h19
        clear hlands hq hown hB hset
        go_wp2
        all_goals go_roundw
        all_goals first | (case rel => exact ⟨i, T.set i B, by omega, by first | rfl | go_num, by rw [List.length_set]; exact HTL.out, by rw [List.map_set]; exact (HOWN.out.stored i (.bool B)).1, hS, hbl.setCell (p := ⟨g, i, none⟩) (by dsimp only; omega) _⟩) | (simp [intOf]; done) | (simp [intOf]; omega)
      · have hS := hset false (by rw [hlands, if_neg h19]; simp [h28])
        have e19 : (op == 19) = false := by simpa using h19
        clear hlands hq hown h19 h28 hset
        go_wp2
        all_goals go_roundw
        all_goals first | (case rel => exact ⟨i, T.set i false, by omega, by first | rfl | go_num, by rw [List.length_set]; exact HTL.out, by rw [List.map_set]; exact (HOWN.out.stored i (.bool false)).1, hS, hbl.setCell (p := ⟨g, i, none⟩) (by dsimp only; omega) _⟩) | (simp [intOf]; done) | (simp [intOf]; omega)
theorem pla_len : ∀ (l : List OC.Op) (i : Nat) (t : List Int), (OC.plaQ i l t).length = t.length
  | [], _, _ => rfl
  | o :: r, i, t => by rw [OC.plaQ, pla_len r]; split <;> simp
theorem pla_bd : ∀ (l : List OC.Op) (i N : Nat) (t : List Int), i + l.length ≤ N → (∀ v : Nat, 0 ≤ t.getD v 0 ∧ (t.getD v 0 = 0 ∨ t.getD v 0 < (N : Int))) → ∀ v : Nat, 0 ≤ (OC.plaQ i l t).getD v 0 ∧ ((OC.plaQ i l t).getD v 0 = 0 ∨ (OC.plaQ i l t).getD v 0 < (N : Int))
  | [], _, _, _, _, h => h
  | o :: r, i, N, t, hN, h => by
    rw [OC.plaQ]
    rw [List.length_cons] at hN
    refine pla_bd r (i + 1) N _ (by omega) fun v => ?_
    split
    · by_cases e : o.n.toNat = v
      · subst e
        by_cases hl : o.n.toNat < t.length
        · rw [getD_set_self hl]; omega
        · rw [List.getD_eq_getElem?_getD, List.getElem?_eq_none (by rw [List.length_set]; omega)]; simp
      · rw [getD_set_ne e]; exact h v
    · exact h v
set_option maxRecDepth 100000 in
set_option maxHeartbeats 8000000 in
theorem labelPlacesP_c (c : OC.Code) (da oa ga : Option Addr) (dl dc ol oc gl gc lq : Nat) (hlq : (c.labels + 1).toNat = lq) (w : World) (hc : CodeIn w c da oa ga dl dc ol oc gl gc) (hn : ∀ o ∈ c.ops, OC.numB c.data.length c.procs c.labels o = true) (h0 : 0 ≤ c.labels) (hlm : c.labels ≤ 20000) (hom : ol ≤ 40100) :
    Calls Tryd.prog 31 #[codeV c da oa ga dl dc ol oc gl gc] w fun e w' => (∃ g, e = .returned (.slice (some ⟨g, 0, none⟩) lq lq) ∧ w.heap.size ≤ g ∧ w'.ownsRow 0 3 1 (.slice (some ⟨g, 0, none⟩) lq lq) lq ((OC.plaQ 0 c.ops (List.replicate lq 0)).map (.int .i64))) ∧ Below w.heap.size w w' := by
  obtain ⟨hol, hoc, -⟩ := hc.ops.len
  have HC := Lib.hid hc
  have HO := Lib.hid hol
  have HN : Hid (∀ o ∈ c.ops, o.op = 19 → 1 ≤ o.n ∧ o.n ≤ c.labels) := fun o ho e => lbs_of_numB hn o.n (mem_lbs.2 ⟨o, ho, e, rfl⟩)
  obtain ⟨ii, hi1, hz0, hz1, hz2⟩ := info_parts int_info
  have HII := Lib.hid hi1
  have HZ0 := Lib.hid hz0
  have HZ1 := Lib.hid hz1
  have HZ2 := Lib.hid hz2
  clear hi1 hz0 hz1 hz2
  obtain ⟨name, data, ops, globals, procs, labels⟩ := c
  dsimp only at *
  have e1 : labels + 1 = (lq : Int) := by omega
  have lqb : lq ≤ 20001 := by omega
  have HLQ : Hid (∀ z : Int, z ≤ labels → z < (lq : Int)) := fun z h => by omega
  obtain ⟨PL, hPL⟩ : ∃ x, OC.plaQ 0 ops (List.replicate lq 0) = x := ⟨_, rfl⟩
  have HPL := Lib.hid hPL
  rw [hPL]
  clear hPL hlq hc hn hol hoc
  go_enter Tryd.func31, Tryd.ntmps31
  go_wp2_with (at_make; refine wpList_make_full _ rfl _ _ 29 rfl 0 3 ii (.int .i64 0) 1 Tryd.underlying29 HII.out HZ0.out HZ1.out .i64 .i64 _ _ lq rfl rfl rfl rfl (by rw [HZ2.out]; omega) (by unfold maxLen; omega) (Nat.zero_le _) ?_; intro w2 hown2 hg2; have HB2 := Lib.hid ((BoxC.new w ⟨name, data, ops, globals, procs, labels⟩ da oa ga dl dc ol oc gl gc 26).keep (below_grown hg2) (by simp)); have HBL := Lib.hid (below_then (below_alloc w _) (below_grown hg2)); obtain ⟨c0, c1, c2, c3, c4, c5⟩ := HB2.out)
  obtain ⟨g, hg⟩ : ∃ g, w.heap.size + 1 = g := ⟨_, rfl⟩
  have hgw : w.heap.size < g := by omega
  simp only [World.size_alloc] at hown2
  rw [hg] at hown2
  have HOW : Hid (w2.ownsRow 0 3 1 (.slice (some ⟨g, 0, none⟩) lq lq) lq ((List.replicate lq (0 : Int)).map (.int .i64))) := by show World.ownsRow _ _ _ _ _ _ _; rw [← zeros_eq]; exact hown2
  (try simp only [World.size_alloc])
  (try rw [hg])
  clear hg2 hown2 e1 c0 c1 c2 c3 c4 c5
  go_wp2
  go_loopw [13] (fun i wr => ∃ (k : Nat) (T : List Int), k ≤ ol ∧ i = .int .i64 k ∧ T.length = lq ∧ wr.ownsRow 0 3 1 (.slice (some ⟨g, 0, none⟩) lq lq) lq (T.map (.int .i64)) ∧ Hid (PL = OC.plaQ k (ops.drop k) T) ∧ Below w.heap.size w wr) (fun i _ => ol - (intOf i).toNat)
  case atStart => exact ⟨0, List.replicate lq 0, Nat.zero_le _, rfl, by simp, HOW.out, (show Hid _ from by show _ = _; rw [← HPL.out]; rfl), HBL.out⟩
  case round =>
    clear HB2 HBL HOW
    obtain ⟨k, T, hk, rfl, hTl, hown, hq, hbl⟩ := hrel
    have hgz : g < wr.heap.size := (hown.lt _ rfl).2
    have HOWN := Lib.hid hown
    have HTL := Lib.hid hTl
    by_cases hlt : k < ol
    · obtain ⟨-, b, off, rfl, q0, q1, q2⟩ := HC.out.ops.get hlt
      have hbw : b < w.heap.size := World.block_lt_of_cell? _ _ q0
      obtain ⟨h0, h1, h2⟩ := (show OpAt w b (off + k * 3) _ from ⟨q0, q1, q2⟩).keep hbl
      clear q0 q1 q2
      have hkl : k < ops.length := by rw [← HO.out]; exact hlt
      have hd := dropAt (d := OC.oz) hkl
      have hnb := HN.out _ (getD_map_range ops OC.oz hkl)
      generalize ops.getD k OC.oz = x at *
      have hPk : PL = OC.plaQ (k + 1) (ops.drop (k + 1)) (if x.op = 19 then T.set x.n.toNat k else T) := by rw [hq.out, hd]; rfl
      obtain ⟨op, n, m⟩ := x
      dsimp only at h0 h1 h2 hnb hPk
      have k1 : (k : Int) < (ol : Int) := by omega
      have hbb : b < wr.heap.size := by omega
      have hbb1 : b < wr.heap.size + 1 := by omega
      have hgz1 : g < wr.heap.size + 1 := by omega
      have mg : ¬ b = g := by omega
      clear hd hq hkl
      by_cases h19 : op = 19
      · obtain ⟨n1, n2⟩ := hnb h19
        obtain ⟨j, hj⟩ : ∃ j : Nat, n = (j : Int) := ⟨n.toNat, by omega⟩
        subst hj
        have j1 : (j : Int) < (lq : Int) := HLQ.out _ n2
        have hjl : j < lq := by omega
        have hcell : wr.cell? ⟨g, j, none⟩ = some (.int .i64 (T.getD j 0)) := by rw [hown.cellAt j (by omega)]; simp [hTl, hjl]
        have hfz := hown.frozenAt j
        have hnext : Hid (PL = OC.plaQ (k + 1) (ops.drop (k + 1)) (T.set j k)) := by show _ = _; rw [hPk, if_pos h19, Int.toNat_natCast]
        subst h19
        clear hPk hnb hown
        go_wp2
        all_goals go_roundw
        all_goals first | (case rel => exact ⟨k + 1, T.set j k, by omega, by go_num, by rw [List.length_set]; exact HTL.out, by rw [List.map_set]; exact owns_keep' (HOWN.out.stored j (.int .i64 k)).1 (below_alloc _ _), hnext, below_then (hbl.setCell (p := ⟨g, j, none⟩) (by dsimp only; omega) _) (below_alloc _ _)⟩) | (simp [intOf]; omega)
      · have e19 : (op == 19) = false := by simpa using h19
        have hnext : Hid (PL = OC.plaQ (k + 1) (ops.drop (k + 1)) T) := by show _ = _; rw [hPk, if_neg h19]
        clear hPk hnb hown h19
        go_wp2
        all_goals go_roundw
        all_goals first | (case rel => exact ⟨k + 1, T, by omega, by go_num, HTL.out, owns_keep' HOWN.out (below_alloc _ _), hnext, below_then hbl (below_alloc _ _)⟩) | (simp [intOf]; omega)
    · obtain rfl : ol = k := by omega
      have hfin : Hid (PL = T) := by show _ = _; rw [hq.out, List.drop_eq_nil_of_le (by rw [← HO.out]; exact Nat.le_refl _)]; rfl
      clear hq hown
      go_wp2
      all_goals go_ret
      all_goals exact ⟨⟨g, rfl, by omega, by rw [hfin.out]; exact HOWN.out⟩, hbl⟩
end Go.Proofs.YtfnkafnjpldaoaaDoor
namespace Go.Proofs.YtfnkafnjpldaoaaDoor
open Go.RowKit
set_option linter.unusedVariables false
set_option linter.unusedSimpArgs false
set_option maxRecDepth 100000 in
set_option maxHeartbeats 16000000 in
theorem keepsDepthsP_c (nd procs labels : Int) (ops : List OC.Op) (a : Option Addr) (len cap : Nat) (w : World) (hr : RdO w (.slice a len cap) ops) (hn : ∀ o ∈ ops, OC.numB nd procs labels o = true) (hm : len ≤ 40100) :
    Calls Tryd.prog 17 #[.slice a len cap] w fun e w' => e = .returned (.bool (OC.kepQ 0 0 ops)) ∧ Below w.heap.size w w' := by
  obtain ⟨hl, hc, -⟩ := hr.len
  have HR := Lib.hid hr
  have HL := Lib.hid hl
  have HN := Lib.hid hn
  obtain ⟨DG, hDG⟩ : ∃ x, depG 0 ops = x := ⟨_, rfl⟩
  have hdl : DG.length = len := by rw [← hDG, depG_len, hl]
  have HDP : Hid (∀ W, RdO W (.slice a len cap) ops → Calls Tryd.prog 12 #[.slice a len cap] W fun e w' => (∃ g, e = .returned (.slice (some ⟨g, 0, none⟩) len len) ∧ W.heap.size ≤ g ∧ w'.ownsRow 0 3 1 (.slice (some ⟨g, 0, none⟩) len len) len (DG.map (.int .i64))) ∧ Below W.heap.size W w') := fun W hW => by have h := depthsP_c nd procs labels ops a len cap W hW hn hm; rwa [hDG] at h
  obtain ⟨R, hR⟩ : ∃ x, OC.kepQ 0 0 ops = x := ⟨_, rfl⟩
  have HR2 := Lib.hid hR
  have HDG := Lib.hid hDG
  have HDL := Lib.hid hdl
  rw [hR]
  clear hr hl hc hn hDG hdl hR
  go_enter Tryd.func17, Tryd.ntmps17
  go_wp2_with (go_at_call 12; refine (HDP.out _ HR.out).mono ?_; rintro e w1 ⟨⟨g, rfl, hgw, hown⟩, hb1⟩)
  have HBL := Lib.hid hb1
  have HOWN := Lib.hid hown
  have hgz : g < w1.heap.size := (hown.lt _ rfl).2
  clear hb1 hown
  go_wp2
  go_loopw [11] (fun i wr => ∃ (k : Nat) (d pv : Int), k ≤ len ∧ i = .int .i64 k ∧ 0 ≤ d ∧ d ≤ 4000 ∧ Hid (R = OC.kepQ d pv (ops.drop k)) ∧ Hid (DG.drop k = depG d (ops.drop k)) ∧ Hid ((k = 0 → pv = 0) ∧ ∀ q, k = q + 1 → pv = (ops.getD q OC.oz).op) ∧ Below w1.heap.size w1 wr) (fun i _ => len - (intOf i).toNat)
  case atStart => exact ⟨0, 0, 0, Nat.zero_le _, rfl, by omega, by omega, (show Hid _ from by show _ = _; rw [← HR2.out]; rfl), (show Hid _ from by show _ = _; rw [← HDG.out]; rfl), ⟨fun _ => rfl, fun q h => by omega⟩, Below.refl _ _⟩
  case round =>
    clear HR2
    obtain ⟨k, d, pv, hk, rfl, hd1, hd2, hq, hdg, hpv0, hbl⟩ := hrel
    have hwr := hbl.size
    by_cases hlt : k < len
    · have HOI : Hid (RdO wr (.slice a len cap) ops) := HR.out.keep fun _ _ _ h => h.keep (below_then HBL.out hbl)
      obtain ⟨-, b, off, rfl, h0, h1, h2⟩ := HOI.out.get hlt
      have hkl : k < ops.length := by rw [← HL.out]; exact hlt
      have hd := dropAt (d := OC.oz) hkl
      have hnb := HN.out _ (getD_map_range ops OC.oz hkl)
      have hdd := dropAt (d := (0 : Int)) (show k < DG.length by rw [HDL.out]; exact hlt)
      have hOW := owns_keep' HOWN.out hbl
      have hcell : wr.cell? ⟨g, k, none⟩ = some (.int .i64 (DG.getD k 0)) := by rw [hOW.cellAt k (by omega)]; simp [HDL.out, hlt]
      have hpv : Hid ((k + 1 = 0 → (ops.getD k OC.oz).op = 0) ∧ ∀ q, k + 1 = q + 1 → (ops.getD k OC.oz).op = (ops.getD q OC.oz).op) := ⟨fun h => by omega, fun q h => by rw [show q = k by omega]⟩
      have hprev : ∀ q, k = q + 1 → pv = (ops.getD q OC.oz).op := hpv0.out.2
      have hfirst := hpv0.out.1
      generalize hx : ops.getD k OC.oz = x at *
      obtain ⟨b1, b2, b3, b4, b5, b6⟩ := numB_bd hnb
      have hdg2 := hdg.out
      rw [hdd, hd, depG] at hdg2
      injection hdg2 with hh1 hh2
      obtain ⟨d0, hd0⟩ : ∃ d0, (if x.op = 24 then 0 else d) = d0 := ⟨_, rfl⟩
      have hQ : R = (OC.kepB x d0 pv && OC.kepQ (OC.after x d0) x.op (ops.drop (k + 1))) := by rw [hq.out, hd, OC.kepQ, hd0]
      rw [hd0] at hh1 hh2
      rw [hh1] at hcell
      have d01 : 0 ≤ d0 ∧ d0 ≤ 4000 := by rw [← hd0]; split <;> omega
      obtain ⟨d02, d03⟩ := d01
      have HBH : Hid (∀ W, Calls Tryd.prog 14 #[opVal x, .int .i64 d0] W fun e w' => e = .returned (.int .i64 (OC.after x d0)) ∧ Below W.heap.size W w') := fun W => behindP_c x d0 W (by omega) (by omega) (by omega) (by omega) (by omega) (by omega)
      have HFT : Hid (∀ W, Calls Tryd.prog 29 #[opVal x, .int .i64 d0] W fun e w' => e = .returned (.bool (OC.fitQ x d0)) ∧ Below W.heap.size W w') := fun W => fitsP_c x d0 W (by omega) (by omega) (by omega) (by omega)
      obtain ⟨A, hA0⟩ : ∃ A, OC.after x d0 = A := ⟨_, rfl⟩
      obtain ⟨FB, hFB⟩ : ∃ A, OC.fitQ x d0 = A := ⟨_, rfl⟩
      rw [hA0] at HBH hQ hh2
      rw [hFB] at HFT
      have hdrop := Lib.hid hh2
      obtain ⟨op, n, m⟩ := x
      dsimp only at h0 h1 h2 b1 b2 b3 b4 b5 b6 hQ hpv
      have k1 : (k : Int) < (len : Int) := by omega
      have hbb : b < wr.heap.size := World.block_lt_of_cell? _ _ h0
      have hbb1 : b < wr.heap.size + 1 := by omega
      have hgz1 : g < wr.heap.size := by omega
      have hgz2 : g < wr.heap.size + 1 := by omega
      have hK : OC.kepB ⟨op, n, m⟩ d0 pv = (decide (2 ≤ A) && decide (A ≤ 4000) && FB && !(decide (op = 18) && decide (pv ≠ 19) && decide (d0 + 2002 < n))) := by unfold OC.kepB; rw [hA0, hFB]
      rw [hK] at hQ
      clear hd hq hkl hnb hdd hOW hdg hh1 hh2 hd0 hK hx
      by_cases hA1 : 2 ≤ A
      case neg =>
        have hf : Hid (R = false) := by show _ = _; rw [hQ]; simp [hA1]
        clear hQ hA0 hFB hprev hfirst
        have a1 : A < 2 := by omega
        go_wp2_with (go_at_call 14; refine (HBH.out _).mono ?_; rintro e w3 ⟨rfl, hb3⟩; obtain ⟨hcc3, hff3⟩ := bcell hb3; have z3 := hb3.size; have zw3 : wr.heap.size < w3.heap.size := (by first | omega | (simp at z3; omega)); have zb3 : b < w3.heap.size := by omega)
        all_goals go_ret
        all_goals exact ⟨by rw [hf.out]; rfl, below_then (below_then (below_then HBL.out hbl) (below_alloc _ _)) hb3⟩
      by_cases hA2 : A ≤ 4000
      case neg =>
        have hf : Hid (R = false) := by show _ = _; rw [hQ]; simp [hA2]
        clear hQ hA0 hFB hprev hfirst
        have a1 : 4000 < A := by omega
        have a2 : ¬ A < 2 := by omega
        go_wp2_with (go_at_call 14; refine (HBH.out _).mono ?_; rintro e w3 ⟨rfl, hb3⟩; obtain ⟨hcc3, hff3⟩ := bcell hb3; have z3 := hb3.size; have zw3 : wr.heap.size < w3.heap.size := (by first | omega | (simp at z3; omega)); have zb3 : b < w3.heap.size := by omega)
        all_goals go_ret
        all_goals exact ⟨by rw [hf.out]; rfl, below_then (below_then (below_then HBL.out hbl) (below_alloc _ _)) hb3⟩
      have a1 : ¬ A < 2 := by omega
      have a2 : ¬ 4000 < A := by omega
      cases FB with
      | false =>
        have hf : Hid (R = false) := by show _ = _; rw [hQ]; simp
        clear hQ hA0 hFB hprev hfirst
        go_wp2_with (first
          | (go_at_call 14; refine (HBH.out _).mono ?_; rintro e w3 ⟨rfl, hb3⟩; obtain ⟨hcc3, hff3⟩ := bcell hb3; have z3 := hb3.size; have zw3 : wr.heap.size < w3.heap.size := (by first | omega | (simp at z3; omega)); have zb3 : b < w3.heap.size := by omega)
          | (go_at_call 29; refine (HFT.out _).mono ?_; rintro e w4 ⟨rfl, hb4⟩; obtain ⟨hcc4, hff4⟩ := bcell hb4; have z4 := hb4.size))
        all_goals go_ret
        all_goals exact ⟨by rw [hf.out]; rfl, below_then (below_then (below_then (below_then HBL.out hbl) (below_alloc _ _)) hb3) hb4⟩
      | true =>
        by_cases hk0 : k = 0
        · have hpv19 : pv ≠ 19 := by rw [hfirst hk0]; decide
          have hk1 : ¬ (0 : Int) < (k : Int) := by omega
          clear hprev hfirst hk0
          by_cases h18 : op = 18
          · by_cases hbig : d0 + 2002 < n
            · have hf : Hid (R = false) := by show _ = _; rw [hQ]; simp [h18, hpv19, hbig]
              subst h18
              have g1 : d0 + 2000 + 2 < n := by omega
              have g2 : decide (d0 + 2002 < n) = true := by simpa using hbig
              clear hQ hA0 hFB
              go_wp2_with (first
                | (go_at_call 14; refine (HBH.out _).mono ?_; rintro e w3 ⟨rfl, hb3⟩; obtain ⟨hcc3, hff3⟩ := bcell hb3; have z3 := hb3.size; have zw3 : wr.heap.size < w3.heap.size := (by first | omega | (simp at z3; omega)); have zb3 : b < w3.heap.size := by omega)
                | (go_at_call 29; refine (HFT.out _).mono ?_; rintro e w4 ⟨rfl, hb4⟩; obtain ⟨hcc4, hff4⟩ := bcell hb4; have z4 := hb4.size))
              all_goals go_ret
              all_goals exact ⟨by rw [hf.out]; rfl, below_then (below_then (below_then (below_then HBL.out hbl) (below_alloc _ _)) hb3) hb4⟩
            · have hnext : Hid (R = OC.kepQ A op (ops.drop (k + 1))) := by show _ = _; rw [hQ]; simp [hA1, hA2, hFB, hbig]
              subst h18
              have g1 : ¬ d0 + 2000 + 2 < n := by omega
              have g2 : decide (d0 + 2002 < n) = false := by simpa using hbig
              have g3 : decide (d0 + 2000 + 2 < n) = false := by simpa using g1
              clear hQ hA0 hFB
              go_wp2_with (first
                | (go_at_call 14; refine (HBH.out _).mono ?_; rintro e w3 ⟨rfl, hb3⟩; obtain ⟨hcc3, hff3⟩ := bcell hb3; have z3 := hb3.size; have zw3 : wr.heap.size < w3.heap.size := (by first | omega | (simp at z3; omega)); have zb3 : b < w3.heap.size := by omega)
                | (go_at_call 29; refine (HFT.out _).mono ?_; rintro e w4 ⟨rfl, hb4⟩; obtain ⟨hcc4, hff4⟩ := bcell hb4; have z4 := hb4.size))
              all_goals go_roundw
              all_goals first | (case rel => exact ⟨k + 1, A, _, by omega, by first | rfl | go_num, by omega, by omega, hnext, hdrop, hpv, below_then (below_then (below_then hbl (below_alloc _ _)) hb3) hb4⟩) | (simp [intOf]; omega)
          · have hnext : Hid (R = OC.kepQ A op (ops.drop (k + 1))) := by show _ = _; rw [hQ]; simp [hA1, hA2, hFB, h18]
            have e18 : (op == 18) = false := by simpa using h18
            clear hQ hA0 hFB h18
            go_wp2_with (first
              | (go_at_call 14; refine (HBH.out _).mono ?_; rintro e w3 ⟨rfl, hb3⟩; obtain ⟨hcc3, hff3⟩ := bcell hb3; have z3 := hb3.size; have zw3 : wr.heap.size < w3.heap.size := (by first | omega | (simp at z3; omega)); have zb3 : b < w3.heap.size := by omega)
              | (go_at_call 29; refine (HFT.out _).mono ?_; rintro e w4 ⟨rfl, hb4⟩; obtain ⟨hcc4, hff4⟩ := bcell hb4; have z4 := hb4.size))
            all_goals go_roundw
            all_goals first | (case rel => exact ⟨k + 1, A, _, by omega, by first | rfl | go_num, by omega, by omega, hnext, hdrop, hpv, below_then (below_then (below_then hbl (below_alloc _ _)) hb3) hb4⟩) | (simp [intOf]; omega)
        · obtain ⟨q, hqk⟩ : ∃ q, k = q + 1 := ⟨k - 1, by omega⟩
          have hpq := hprev q hqk
          obtain ⟨-, b', off', e', g0, -, -⟩ := HOI.out.get (show q < len by omega)
          simp only [Option.some.injEq, Addr.mk.injEq] at e'
          obtain ⟨rfl, rfl, _⟩ := e'
          rw [← hpq] at g0
          have q1 : (q : Int) < (len : Int) := by omega
          have q2 : (k : Int) - 1 = (q : Int) := by omega
          have q3 : IntKind.i64.wrap (q : Int) = (q : Int) := IntWalk.i64_in _ (by omega)
          have qq : (0 : Int) < (k : Int) := by omega
          clear hprev hfirst hk0 hpq hqk
          by_cases h19 : pv = 19
          · subst h19
            by_cases h18 : op = 18
            · have hnext : Hid (R = OC.kepQ A op (ops.drop (k + 1))) := by show _ = _; rw [hQ]; simp [hA1, hA2, hFB]
              subst h18
              clear hQ hA0 hFB
              go_wp2_with (first
                | (go_at_call 14; refine (HBH.out _).mono ?_; rintro e w3 ⟨rfl, hb3⟩; obtain ⟨hcc3, hff3⟩ := bcell hb3; have z3 := hb3.size; have zw3 : wr.heap.size < w3.heap.size := (by first | omega | (simp at z3; omega)); have zb3 : b < w3.heap.size := by omega)
                | (go_at_call 29; refine (HFT.out _).mono ?_; rintro e w4 ⟨rfl, hb4⟩; obtain ⟨hcc4, hff4⟩ := bcell hb4; have z4 := hb4.size))
              all_goals go_roundw
              all_goals first | (case rel => exact ⟨k + 1, A, _, by omega, by first | rfl | go_num, by omega, by omega, hnext, hdrop, hpv, below_then (below_then (below_then hbl (below_alloc _ _)) hb3) hb4⟩) | (simp [intOf]; omega)
            · have hnext : Hid (R = OC.kepQ A op (ops.drop (k + 1))) := by show _ = _; rw [hQ]; simp [hA1, hA2, hFB, h18]
              have e18 : (op == 18) = false := by simpa using h18
              clear hQ hA0 hFB h18
              go_wp2_with (first
                | (go_at_call 14; refine (HBH.out _).mono ?_; rintro e w3 ⟨rfl, hb3⟩; obtain ⟨hcc3, hff3⟩ := bcell hb3; have z3 := hb3.size; have zw3 : wr.heap.size < w3.heap.size := (by first | omega | (simp at z3; omega)); have zb3 : b < w3.heap.size := by omega)
                | (go_at_call 29; refine (HFT.out _).mono ?_; rintro e w4 ⟨rfl, hb4⟩; obtain ⟨hcc4, hff4⟩ := bcell hb4; have z4 := hb4.size))
              all_goals go_roundw
              all_goals first | (case rel => exact ⟨k + 1, A, _, by omega, by first | rfl | go_num, by omega, by omega, hnext, hdrop, hpv, below_then (below_then (below_then hbl (below_alloc _ _)) hb3) hb4⟩) | (simp [intOf]; omega)
          · have hpv19 : pv ≠ 19 := h19
            have e19 : (pv == 19) = false := by simpa using h19
            by_cases h18 : op = 18
            · by_cases hbig : d0 + 2002 < n
              · have hf : Hid (R = false) := by show _ = _; rw [hQ]; simp [h18, hpv19, hbig]
                subst h18
                have g1 : d0 + 2000 + 2 < n := by omega
                have g2 : decide (d0 + 2002 < n) = true := by simpa using hbig
                clear hQ hA0 hFB
                go_wp2_with (first
                  | (go_at_call 14; refine (HBH.out _).mono ?_; rintro e w3 ⟨rfl, hb3⟩; obtain ⟨hcc3, hff3⟩ := bcell hb3; have z3 := hb3.size; have zw3 : wr.heap.size < w3.heap.size := (by first | omega | (simp at z3; omega)); have zb3 : b < w3.heap.size := by omega)
                  | (go_at_call 29; refine (HFT.out _).mono ?_; rintro e w4 ⟨rfl, hb4⟩; obtain ⟨hcc4, hff4⟩ := bcell hb4; have z4 := hb4.size))
                all_goals go_ret
                all_goals exact ⟨by rw [hf.out]; rfl, below_then (below_then (below_then (below_then HBL.out hbl) (below_alloc _ _)) hb3) hb4⟩
              · have hnext : Hid (R = OC.kepQ A op (ops.drop (k + 1))) := by show _ = _; rw [hQ]; simp [hA1, hA2, hFB, hbig]
                subst h18
                have g1 : ¬ d0 + 2000 + 2 < n := by omega
                have g2 : decide (d0 + 2002 < n) = false := by simpa using hbig
                have g3 : decide (d0 + 2000 + 2 < n) = false := by simpa using g1
                clear hQ hA0 hFB
                go_wp2_with (first
                  | (go_at_call 14; refine (HBH.out _).mono ?_; rintro e w3 ⟨rfl, hb3⟩; obtain ⟨hcc3, hff3⟩ := bcell hb3; have z3 := hb3.size; have zw3 : wr.heap.size < w3.heap.size := (by first | omega | (simp at z3; omega)); have zb3 : b < w3.heap.size := by omega)
                  | (go_at_call 29; refine (HFT.out _).mono ?_; rintro e w4 ⟨rfl, hb4⟩; obtain ⟨hcc4, hff4⟩ := bcell hb4; have z4 := hb4.size))
                all_goals go_roundw
                all_goals first | (case rel => exact ⟨k + 1, A, _, by omega, by first | rfl | go_num, by omega, by omega, hnext, hdrop, hpv, below_then (below_then (below_then hbl (below_alloc _ _)) hb3) hb4⟩) | (simp [intOf]; omega)
            · have hnext : Hid (R = OC.kepQ A op (ops.drop (k + 1))) := by show _ = _; rw [hQ]; simp [hA1, hA2, hFB, h18]
              have e18 : (op == 18) = false := by simpa using h18
              clear hQ hA0 hFB h18
              go_wp2_with (first
                | (go_at_call 14; refine (HBH.out _).mono ?_; rintro e w3 ⟨rfl, hb3⟩; obtain ⟨hcc3, hff3⟩ := bcell hb3; have z3 := hb3.size; have zw3 : wr.heap.size < w3.heap.size := (by first | omega | (simp at z3; omega)); have zb3 : b < w3.heap.size := by omega)
                | (go_at_call 29; refine (HFT.out _).mono ?_; rintro e w4 ⟨rfl, hb4⟩; obtain ⟨hcc4, hff4⟩ := bcell hb4; have z4 := hb4.size))
              all_goals go_roundw
              all_goals first | (case rel => exact ⟨k + 1, A, _, by omega, by first | rfl | go_num, by omega, by omega, hnext, hdrop, hpv, below_then (below_then (below_then hbl (below_alloc _ _)) hb3) hb4⟩) | (simp [intOf]; omega)
    · obtain rfl : len = k := by omega
      have hfin : Hid (R = true) := by show _ = _; rw [hq.out, List.drop_eq_nil_of_le (by rw [← HL.out]; exact Nat.le_refl _)]; rfl
      clear hq hdg hpv0
      go_wp2
      all_goals go_ret
      all_goals exact ⟨by rw [hfin.out]; rfl, below_then HBL.out hbl⟩
end Go.Proofs.YtfnkafnjpldaoaaDoor
namespace Go.Proofs.YtfnkafnjpldaoaaDoor
open Go.RowKit
set_option linter.unusedVariables false
set_option linter.unusedSimpArgs false
set_option maxRecDepth 100000 in
set_option maxHeartbeats 16000000 in
theorem reachesTakesP_c (c : OC.Code) (da oa ga : Option Addr) (dl dc ol oc gl gc : Nat) (w : World) (hc : CodeIn w c da oa ga dl dc ol oc gl gc) (hi : InstAt w) (hn : ∀ o ∈ c.ops, OC.numB c.data.length c.procs c.labels o = true) (hl0 : 0 ≤ c.labels) (hlm : c.labels ≤ 20000) (hom : ol ≤ 40100)
    (hf : ∀ k, k < c.ops.length → (c.ops.getD k OC.oz).op = 19 → k + 1 < c.ops.length) (hg : ∀ k, k < c.ops.length → OC.goQ (c.ops.getD k OC.oz) (c.ops.drop (k + 1)) = true → k + 1 < c.ops.length) :
    Calls Tryd.prog 18 #[codeV c da oa ga dl dc ol oc gl gc] w fun e w' => e = .returned (.bool (OC.reaQ c.ops (OC.plaQ 0 c.ops (List.replicate (c.labels + 1).toNat 0)) c.ops)) ∧ Below w.heap.size w w' := by
  obtain ⟨hol, hoc, -⟩ := hc.ops.len
  have HC := Lib.hid hc
  have HI := Lib.hid hi
  have HO := Lib.hid hol
  have HN : Hid (∀ o ∈ c.ops, (1 ≤ o.op ∧ o.op ≤ 30) ∧ (OC.label o = 0 ∨ (1 ≤ OC.label o ∧ OC.label o ≤ c.labels))) := fun o ho => by
    have h := hn o ho
    have hb := numB_bd h
    exact ⟨⟨hb.1, hb.2.1⟩, label_bd h⟩
  have HGX := Lib.hid hg
  have HGO0 : Hid (∀ W k, RdO W (.slice oa ol oc) c.ops → k < c.ops.length → Calls Tryd.prog 33 #[.slice oa ol oc, .int .i64 ((k : Nat) : Int)] W fun e w' => e = .returned (.bool (OC.goQ (c.ops.getD k OC.oz) (c.ops.drop (k + 1)))) ∧ Below W.heap.size W w') := fun W k hW hk => goesOnP_c c.ops oa ol oc W k hW hk
  obtain ⟨lq, hlq⟩ : ∃ lq : Nat, (c.labels + 1).toNat = lq := ⟨_, rfl⟩
  have HLP : Hid (∀ W, CodeIn W c da oa ga dl dc ol oc gl gc → Calls Tryd.prog 31 #[codeV c da oa ga dl dc ol oc gl gc] W fun e w' => (∃ g, e = .returned (.slice (some ⟨g, 0, none⟩) lq lq) ∧ W.heap.size ≤ g ∧ w'.ownsRow 0 3 1 (.slice (some ⟨g, 0, none⟩) lq lq) lq ((OC.plaQ 0 c.ops (List.replicate lq 0)).map (.int .i64))) ∧ Below W.heap.size W w') := fun W hW => labelPlacesP_c c da oa ga dl dc ol oc gl gc lq hlq W hW hn hl0 hlm hom
  have HLT : Hid (∀ W, RdO W (.slice oa ol oc) c.ops → Calls Tryd.prog 30 #[.slice oa ol oc] W fun e w' => (∃ g, e = .returned (.slice (some ⟨g, 0, none⟩) ol ol) ∧ W.heap.size ≤ g ∧ (∀ j, j < ol → w'.cell? ⟨g, j, none⟩ = some (.bool (OC.landsB (c.ops.drop j))))) ∧ Below W.heap.size W w') := fun W hW => leadingP_c c.ops oa ol oc W hW hf hom
  rw [hlq]
  obtain ⟨PL, hPL⟩ : ∃ x, OC.plaQ 0 c.ops (List.replicate lq 0) = x := ⟨_, rfl⟩
  have hPB : ∀ v : Nat, 0 ≤ PL.getD v 0 ∧ (PL.getD v 0 = 0 ∨ PL.getD v 0 < (ol : Int)) := by
    rw [← hPL]
    exact pla_bd c.ops 0 ol _ (by omega) (fun v => by rw [rep_getD]; omega)
  have hPLl : PL.length = lq := by rw [← hPL, pla_len, List.length_replicate]
  have HPB := Lib.hid hPB
  have HPLL := Lib.hid hPLl
  rw [hPL] at HLP ⊢
  obtain ⟨R, hR⟩ : ∃ x, OC.reaQ c.ops PL c.ops = x := ⟨_, rfl⟩
  have HR := Lib.hid hR
  rw [hR]
  have HLQ : Hid (∀ z : Int, z ≤ c.labels → z < (lq : Int)) := fun z h => by omega
  obtain ⟨name, data, ops, globals, procs, labels⟩ := c
  dsimp only at *
  clear hPL hPB hPLl hR hlq hc hi hn hl0 hlm hf hg hol hoc
  go_enter Tryd.func18, Tryd.ntmps18
  go_wp2_with (first
    | (go_at_call 30; refine (HLT.out _ (HC.out.keep (below_alloc _ _)).ops).mono ?_; rintro e w1 ⟨⟨gt, rfl, hgt, hcl⟩, hb1⟩; have z1 := hb1.size; have zw1 : w.heap.size < w1.heap.size := (by first | omega | (simp at z1; omega)); obtain ⟨c0, c1, c2, c3, c4, c5⟩ := (BoxC.new w ⟨name, data, ops, globals, procs, labels⟩ da oa ga dl dc ol oc gl gc 26).keep hb1 (by simp); have HCL := Lib.hid hcl; clear hcl)
    | (go_at_call 31; refine (HLP.out _ (HC.out.keep (below_then (below_alloc _ _) hb1))).mono ?_; rintro e w2 ⟨⟨gp, rfl, hgp, hown⟩, hb2⟩; have HBX2 : Hid (BoxC w2 w.heap.size ⟨name, data, ops, globals, procs, labels⟩ da oa ga dl dc ol oc gl gc) := BoxC.keep ⟨c0, c1, c2, c3, c4, c5⟩ hb2 zw1; clear c0 c1 c2 c3 c4 c5; obtain ⟨c0, c1, c2, c3, c4, c5⟩ := HBX2.out))
  have HBL := Lib.hid (below_then (below_then (below_alloc w _) hb1) hb2)
  have HOWN := Lib.hid hown
  have hgpz : gp < w2.heap.size := (hown.lt _ rfl).2
  have HCL2 : Hid (∀ j, j < ol → w2.cell? ⟨gt, j, none⟩ = some (.bool (OC.landsB (ops.drop j)))) := fun j hj => (hb2.cell (World.block_lt_of_cell? _ _ (HCL.out j hj))).trans (HCL.out j hj)
  have hgtz : 0 < ol → gt < w2.heap.size := fun h => World.block_lt_of_cell? _ _ (HCL2.out 0 h)
  have HGT := Lib.hid hgtz
  have hwz2 : w.heap.size < w2.heap.size := HBX2.out.lt
  clear hb1 hb2 hown HCL z1 zw1 hgt hgp c0 c1 c2 c3 c4 c5 hgtz
  obtain ⟨c0, c1, c2, c3, c4, c5⟩ := HBX2.out
  go_wp2
  clear c0 c1 c2 c3 c4 c5
  go_loopw [16] (fun i wr => ∃ (k : Nat), k ≤ ol ∧ i = .int .i64 k ∧ Hid (R = OC.reaQ ops PL (ops.drop k)) ∧ Below w2.heap.size w2 wr) (fun i _ => ol - (intOf i).toNat)
  case atStart => exact ⟨0, Nat.zero_le _, rfl, (show Hid _ from by show _ = _; rw [← HR.out]; rfl), Below.refl _ _⟩
  case round =>
    clear HR
    obtain ⟨k, hk, rfl, hq, hbl⟩ := hrel
    have hwr := hbl.size
    obtain ⟨c0, c1, c2, c3, c4, c5⟩ := HBX2.out.keep hbl hwz2
    by_cases hlt : k < ol
    · have HOI : Hid (RdO wr (.slice oa ol oc) ops) := (HC.out.keep (below_then HBL.out hbl)).ops
      have hgtz := HGT.out (by omega)
      obtain ⟨-, b, off, rfl, h0, h1, h2⟩ := HOI.out.get hlt
      have hkl : k < ops.length := by rw [← HO.out]; exact hlt
      have hd := dropAt (d := OC.oz) hkl
      obtain ⟨nb1, nb3⟩ := HN.out _ (getD_map_range ops OC.oz hkl)
      have hgl := HGX.out k hkl
      have HGO1 : Hid (∀ W, RdO W (.slice (some ⟨b, off, none⟩) ol oc) ops → Calls Tryd.prog 33 #[.slice (some ⟨b, off, none⟩) ol oc, .int .i64 (k : Int)] W fun e w' => e = .returned (.bool (OC.goQ (ops.getD k OC.oz) (ops.drop (k + 1)))) ∧ Below W.heap.size W w') := fun W hW => HGO0.out W k hW hkl
      have hQ : R = OC.reaQ ops PL (ops.getD k OC.oz :: ops.drop (k + 1)) := by rw [hq.out, hd]
      rw [OC.reaQ] at hQ
      obtain ⟨GB, hGB⟩ : ∃ x, OC.goQ (ops.getD k OC.oz) (ops.drop (k + 1)) = x := ⟨_, rfl⟩
      rw [hGB] at hgl HGO1 hQ
      rw [← HO.out] at hgl
      generalize ops.getD k OC.oz = x at *
      have HNM : Hid (∀ W, InstAt W → Calls Tryd.prog 32 #[opVal x] W fun e w' => e = .returned (.int .i64 (OC.label x)) ∧ Below W.heap.size W w') := fun W hW => namedP_c x W hW (by omega) (by omega)
      have HIQ := Lib.hid (HI.out.keep (below_then HBL.out hbl) (Nat.le_refl _))
      obtain ⟨L, hL⟩ : ∃ L, OC.label x = L := ⟨_, rfl⟩
      rw [hL] at HNM nb3 hQ
      obtain ⟨op, n, m⟩ := x
      dsimp only at h0 h1 h2 nb1 hQ
      have HGO := Lib.hid HGO1.out
      have k1 : (k : Int) < (ol : Int) := by omega
      have hbb : b < wr.heap.size := World.block_lt_of_cell? _ _ h0
      have hbb1 : b < wr.heap.size + 1 := by omega
      have hgt1 : gt < wr.heap.size := by omega
      have hgp1 : gp < wr.heap.size := by omega
      have hwz1 : w.heap.size < wr.heap.size := by omega
      have HCLR : Hid (∀ j, j < ol → wr.cell? ⟨gt, j, none⟩ = some (.bool (OC.landsB (ops.drop j)))) := fun j hj => (hbl.cell (p := ⟨gt, j, none⟩) hgtz).trans (HCL2.out j hj)
      have hOW := owns_keep' HOWN.out hbl
      -- behind the first test: what the second one says
      have T2 : (∀ Q : Prop, R = (if op ≠ 19 ∧ GB = true ∧ OC.landsB (ops.drop (k + 1)) = true then false else OC.reaQ ops PL (ops.drop (k + 1))) → True) := fun _ _ => trivial
      clear hd hq hkl hGB hL T2 HGO0 HGO1
      by_cases hL0 : L = 0
      · subst hL0
        have hQ2 : R = (if op ≠ 19 ∧ GB = true ∧ OC.landsB (ops.drop (k + 1)) = true then false else OC.reaQ ops PL (ops.drop (k + 1))) := by rw [hQ, if_neg (fun h => h.1 rfl)]
        clear hQ nb3 hOW
        by_cases h19 : op = 19
        · have hnext : Hid (R = OC.reaQ ops PL (ops.drop (k + 1))) := by show _ = _; rw [hQ2, if_neg (fun h => h.1 h19)]
          subst h19
          clear hQ2
          go_wp2_with (go_at_call 32; refine (HNM.out _ (HIQ.out.keep (below_alloc _ _) (Nat.le_refl _))).mono ?_; rintro e w3 ⟨rfl, hb3⟩; obtain ⟨hcc3, hff3⟩ := bcell hb3; have z3 := hb3.size; have zw3 : wr.heap.size < w3.heap.size := (by first | omega | (simp at z3; omega)); have zb3 : b < w3.heap.size := (by omega); have zt3 : gt < w3.heap.size := (by omega); have zp3 : gp < w3.heap.size := (by omega); have zz3 : w.heap.size < w3.heap.size := (by omega); have HB3 : Hid (Below wr.heap.size wr w3) := below_then (below_alloc _ _) hb3)
          go_quiet (fail)
          go_wp2
          all_goals go_roundw
          all_goals first | (case rel => exact ⟨k + 1, by omega, by first | rfl | go_num, hnext, below_then hbl (below_drewN HB3.out _)⟩) | (simp [intOf]; omega)
        have e19 : (op == 19) = false := by simpa using h19
        have e19b : (op != 19) = true := by simpa using h19
        cases GB with
        | false =>
          have hnext : Hid (R = OC.reaQ ops PL (ops.drop (k + 1))) := by show _ = _; rw [hQ2, if_neg (by simp)]
          clear hQ2
          go_wp2_with (go_at_call 32; refine (HNM.out _ (HIQ.out.keep (below_alloc _ _) (Nat.le_refl _))).mono ?_; rintro e w3 ⟨rfl, hb3⟩; obtain ⟨hcc3, hff3⟩ := bcell hb3; have z3 := hb3.size; have zw3 : wr.heap.size < w3.heap.size := (by first | omega | (simp at z3; omega)); have zb3 : b < w3.heap.size := (by omega); have zt3 : gt < w3.heap.size := (by omega); have zp3 : gp < w3.heap.size := (by omega); have zz3 : w.heap.size < w3.heap.size := (by omega); have HB3 : Hid (Below wr.heap.size wr w3) := below_then (below_alloc _ _) hb3)
          go_quiet (fail)
          go_wp2_with (go_at_call 33; refine (HGO.out _ (HOI.out.keep fun _ _ _ h => h.keep (below_drewN HB3.out _))).mono ?_; rintro e w4 ⟨rfl, hb4⟩; obtain ⟨hcc4, hff4⟩ := bcell hb4; have z4 := hb4.size)
          all_goals go_roundw
          all_goals first | (case rel => exact ⟨k + 1, by omega, by first | rfl | go_num, hnext, below_then (below_then hbl (below_drewN HB3.out _)) hb4⟩) | (simp [intOf]; omega)
        | true =>
          have hend := hgl rfl
          have hcn := HCLR.out (k + 1) hend
          have k3 : (k : Int) + 1 < (ol : Int) := by omega
          obtain ⟨B2, hB2⟩ : ∃ x, OC.landsB (ops.drop (k + 1)) = x := ⟨_, rfl⟩
          rw [hB2] at hcn hQ2
          clear hB2
          cases B2 with
          | false =>
            have hnext : Hid (R = OC.reaQ ops PL (ops.drop (k + 1))) := by show _ = _; rw [hQ2, if_neg (by simp)]
            clear hQ2
            go_wp2_with (go_at_call 32; refine (HNM.out _ (HIQ.out.keep (below_alloc _ _) (Nat.le_refl _))).mono ?_; rintro e w3 ⟨rfl, hb3⟩; obtain ⟨hcc3, hff3⟩ := bcell hb3; have z3 := hb3.size; have zw3 : wr.heap.size < w3.heap.size := (by first | omega | (simp at z3; omega)); have zb3 : b < w3.heap.size := (by omega); have zt3 : gt < w3.heap.size := (by omega); have zp3 : gp < w3.heap.size := (by omega); have zz3 : w.heap.size < w3.heap.size := (by omega); have HB3 : Hid (Below wr.heap.size wr w3) := below_then (below_alloc _ _) hb3)
            go_quiet (fail)
            go_wp2_with (go_at_call 33; refine (HGO.out _ (HOI.out.keep fun _ _ _ h => h.keep (below_drewN HB3.out _))).mono ?_; rintro e w4 ⟨rfl, hb4⟩; obtain ⟨hcc4, hff4⟩ := bcell hb4; have z4 := hb4.size; have hn4 := (hb4.cell (p := ⟨gt, k + 1, none⟩) zt3).trans ((HB3.out.cell (p := ⟨gt, k + 1, none⟩) hgt1).trans hcn))
            all_goals go_roundw
            all_goals first | (case rel => exact ⟨k + 1, by omega, by first | rfl | go_num, hnext, below_then (below_then hbl (below_drewN HB3.out _)) hb4⟩) | (simp [intOf]; omega)
          | true =>
            have hf : Hid (R = false) := by show _ = _; rw [hQ2, if_pos ⟨h19, rfl, rfl⟩]
            clear hQ2
            go_wp2_with (go_at_call 32; refine (HNM.out _ (HIQ.out.keep (below_alloc _ _) (Nat.le_refl _))).mono ?_; rintro e w3 ⟨rfl, hb3⟩; obtain ⟨hcc3, hff3⟩ := bcell hb3; have z3 := hb3.size; have zw3 : wr.heap.size < w3.heap.size := (by first | omega | (simp at z3; omega)); have zb3 : b < w3.heap.size := (by omega); have zt3 : gt < w3.heap.size := (by omega); have zp3 : gp < w3.heap.size := (by omega); have zz3 : w.heap.size < w3.heap.size := (by omega); have HB3 : Hid (Below wr.heap.size wr w3) := below_then (below_alloc _ _) hb3)
            go_quiet (fail)
            go_wp2_with (go_at_call 33; refine (HGO.out _ (HOI.out.keep fun _ _ _ h => h.keep (below_drewN HB3.out _))).mono ?_; rintro e w4 ⟨rfl, hb4⟩; obtain ⟨hcc4, hff4⟩ := bcell hb4; have z4 := hb4.size; have hn4 := (hb4.cell (p := ⟨gt, k + 1, none⟩) zt3).trans ((HB3.out.cell (p := ⟨gt, k + 1, none⟩) hgt1).trans hcn))
            all_goals go_ret
            all_goals exact ⟨by rw [hf.out]; rfl, below_then (below_then HBL.out (below_then hbl (below_drewN HB3.out _))) hb4⟩
      · obtain ⟨j, hj⟩ : ∃ j : Nat, L = (j : Int) := ⟨L.toNat, by omega⟩
        subst hj
        have j1 : (j : Int) < (lq : Int) := HLQ.out _ (by omega)
        have hjl : j < lq := by omega
        have j3 : ¬ j = 0 := by omega
        have eL2 : ((j : Int) != 0) = true := by simpa using hL0
        have hcell : wr.cell? ⟨gp, j, none⟩ = some (.int .i64 (PL.getD j 0)) := by rw [hOW.cellAt j (by omega)]; simp [HPLL.out, hjl]
        obtain ⟨pb1, pb2⟩ := HPB.out j
        rw [Int.toNat_natCast] at hQ
        obtain ⟨z, hz⟩ : ∃ z, PL.getD j 0 = z := ⟨_, rfl⟩
        rw [hz] at hcell pb1 pb2 hQ
        obtain ⟨q, hzq⟩ : ∃ q : Nat, z = (q : Int) := ⟨z.toNat, by omega⟩
        subst hzq
        have q1 : (q : Int) < (ol : Int) := by omega
        have hql : q < ol := by omega
        rw [Int.toNat_natCast] at hQ
        have hcq := HCLR.out q hql
        obtain ⟨B1, hB1⟩ : ∃ x, OC.landsB (ops.drop q) = x := ⟨_, rfl⟩
        rw [hB1] at hcq hQ
        clear hz hB1 nb3 hOW pb1 pb2
        by_cases h27 : op = 27
        · subst h27
          cases B1 with
          | true =>
            have hQ2 : R = (if (27 : Int) ≠ 19 ∧ GB = true ∧ OC.landsB (ops.drop (k + 1)) = true then false else OC.reaQ ops PL (ops.drop (k + 1))) := by rw [hQ, if_neg (fun h => h.2 (by simp))]
            clear hQ
            cases GB with
            | false =>
              have hnext : Hid (R = OC.reaQ ops PL (ops.drop (k + 1))) := by show _ = _; rw [hQ2, if_neg (by simp)]
              clear hQ2
              go_wp2_with (go_at_call 32; refine (HNM.out _ (HIQ.out.keep (below_alloc _ _) (Nat.le_refl _))).mono ?_; rintro e w3 ⟨rfl, hb3⟩; obtain ⟨hcc3, hff3⟩ := bcell hb3; have z3 := hb3.size; have zw3 : wr.heap.size < w3.heap.size := (by first | omega | (simp at z3; omega)); have zb3 : b < w3.heap.size := (by omega); have zt3 : gt < w3.heap.size := (by omega); have zp3 : gp < w3.heap.size := (by omega); have zz3 : w.heap.size < w3.heap.size := (by omega); have HB3 : Hid (Below wr.heap.size wr w3) := below_then (below_alloc _ _) hb3)
              go_quiet (fail)
              go_wp2_with (go_at_call 33; refine (HGO.out _ (HOI.out.keep fun _ _ _ h => h.keep (below_drewN HB3.out _))).mono ?_; rintro e w4 ⟨rfl, hb4⟩; obtain ⟨hcc4, hff4⟩ := bcell hb4; have z4 := hb4.size)
              all_goals go_roundw
              all_goals first | (case rel => exact ⟨k + 1, by omega, by first | rfl | go_num, hnext, below_then (below_then hbl (below_drewN HB3.out _)) hb4⟩) | (simp [intOf]; omega)
            | true =>
              have hend := hgl rfl
              have hcn := HCLR.out (k + 1) hend
              have k3 : (k : Int) + 1 < (ol : Int) := by omega
              obtain ⟨B2, hB2⟩ : ∃ x, OC.landsB (ops.drop (k + 1)) = x := ⟨_, rfl⟩
              rw [hB2] at hcn hQ2
              clear hB2
              cases B2 with
              | false =>
                have hnext : Hid (R = OC.reaQ ops PL (ops.drop (k + 1))) := by show _ = _; rw [hQ2, if_neg (by simp)]
                clear hQ2
                go_wp2_with (go_at_call 32; refine (HNM.out _ (HIQ.out.keep (below_alloc _ _) (Nat.le_refl _))).mono ?_; rintro e w3 ⟨rfl, hb3⟩; obtain ⟨hcc3, hff3⟩ := bcell hb3; have z3 := hb3.size; have zw3 : wr.heap.size < w3.heap.size := (by first | omega | (simp at z3; omega)); have zb3 : b < w3.heap.size := (by omega); have zt3 : gt < w3.heap.size := (by omega); have zp3 : gp < w3.heap.size := (by omega); have zz3 : w.heap.size < w3.heap.size := (by omega); have HB3 : Hid (Below wr.heap.size wr w3) := below_then (below_alloc _ _) hb3)
                go_quiet (fail)
                go_wp2_with (go_at_call 33; refine (HGO.out _ (HOI.out.keep fun _ _ _ h => h.keep (below_drewN HB3.out _))).mono ?_; rintro e w4 ⟨rfl, hb4⟩; obtain ⟨hcc4, hff4⟩ := bcell hb4; have z4 := hb4.size; have hn4 := (hb4.cell (p := ⟨gt, k + 1, none⟩) zt3).trans ((HB3.out.cell (p := ⟨gt, k + 1, none⟩) hgt1).trans hcn))
                all_goals go_roundw
                all_goals first | (case rel => exact ⟨k + 1, by omega, by first | rfl | go_num, hnext, below_then (below_then hbl (below_drewN HB3.out _)) hb4⟩) | (simp [intOf]; omega)
              | true =>
                have hf : Hid (R = false) := by show _ = _; rw [hQ2, if_pos ⟨(by decide), rfl, rfl⟩]
                clear hQ2
                go_wp2_with (go_at_call 32; refine (HNM.out _ (HIQ.out.keep (below_alloc _ _) (Nat.le_refl _))).mono ?_; rintro e w3 ⟨rfl, hb3⟩; obtain ⟨hcc3, hff3⟩ := bcell hb3; have z3 := hb3.size; have zw3 : wr.heap.size < w3.heap.size := (by first | omega | (simp at z3; omega)); have zb3 : b < w3.heap.size := (by omega); have zt3 : gt < w3.heap.size := (by omega); have zp3 : gp < w3.heap.size := (by omega); have zz3 : w.heap.size < w3.heap.size := (by omega); have HB3 : Hid (Below wr.heap.size wr w3) := below_then (below_alloc _ _) hb3)
                go_quiet (fail)
                go_wp2_with (go_at_call 33; refine (HGO.out _ (HOI.out.keep fun _ _ _ h => h.keep (below_drewN HB3.out _))).mono ?_; rintro e w4 ⟨rfl, hb4⟩; obtain ⟨hcc4, hff4⟩ := bcell hb4; have z4 := hb4.size; have hn4 := (hb4.cell (p := ⟨gt, k + 1, none⟩) zt3).trans ((HB3.out.cell (p := ⟨gt, k + 1, none⟩) hgt1).trans hcn))
                all_goals go_ret
                all_goals exact ⟨by rw [hf.out]; rfl, below_then (below_then HBL.out (below_then hbl (below_drewN HB3.out _))) hb4⟩
          | false =>
            have hf : Hid (R = false) := by show _ = _; rw [hQ, if_pos ⟨hL0, by simp⟩]
            clear hQ
            go_wp2_with (go_at_call 32; refine (HNM.out _ (HIQ.out.keep (below_alloc _ _) (Nat.le_refl _))).mono ?_; rintro e w3 ⟨rfl, hb3⟩; obtain ⟨hcc3, hff3⟩ := bcell hb3; have z3 := hb3.size; have zw3 : wr.heap.size < w3.heap.size := (by first | omega | (simp at z3; omega)); have zb3 : b < w3.heap.size := (by omega); have zt3 : gt < w3.heap.size := (by omega); have zp3 : gp < w3.heap.size := (by omega); have zz3 : w.heap.size < w3.heap.size := (by omega); have HB3 : Hid (Below wr.heap.size wr w3) := below_then (below_alloc _ _) hb3)
            go_quiet (fail)
            go_wp2
            all_goals go_ret
            all_goals exact ⟨by rw [hf.out]; rfl, below_drewN (below_then HBL.out (below_then hbl HB3.out)) _⟩
        · have e27 : (op == 27) = false := by simpa using h27
          cases B1 with
          | false =>
            have hQ2 : R = (if op ≠ 19 ∧ GB = true ∧ OC.landsB (ops.drop (k + 1)) = true then false else OC.reaQ ops PL (ops.drop (k + 1))) := by rw [hQ, if_neg (fun h => h.2 (by simp [h27]))]
            clear hQ
            by_cases h19 : op = 19
            · have hnext : Hid (R = OC.reaQ ops PL (ops.drop (k + 1))) := by show _ = _; rw [hQ2, if_neg (fun h => h.1 h19)]
              subst h19
              clear hQ2
              go_wp2_with (go_at_call 32; refine (HNM.out _ (HIQ.out.keep (below_alloc _ _) (Nat.le_refl _))).mono ?_; rintro e w3 ⟨rfl, hb3⟩; obtain ⟨hcc3, hff3⟩ := bcell hb3; have z3 := hb3.size; have zw3 : wr.heap.size < w3.heap.size := (by first | omega | (simp at z3; omega)); have zb3 : b < w3.heap.size := (by omega); have zt3 : gt < w3.heap.size := (by omega); have zp3 : gp < w3.heap.size := (by omega); have zz3 : w.heap.size < w3.heap.size := (by omega); have HB3 : Hid (Below wr.heap.size wr w3) := below_then (below_alloc _ _) hb3)
              go_quiet (fail)
              go_wp2
              all_goals go_roundw
              all_goals first | (case rel => exact ⟨k + 1, by omega, by first | rfl | go_num, hnext, below_then hbl (below_drewN HB3.out _)⟩) | (simp [intOf]; omega)
            have e19 : (op == 19) = false := by simpa using h19
            have e19b : (op != 19) = true := by simpa using h19
            cases GB with
            | false =>
              have hnext : Hid (R = OC.reaQ ops PL (ops.drop (k + 1))) := by show _ = _; rw [hQ2, if_neg (by simp)]
              clear hQ2
              go_wp2_with (go_at_call 32; refine (HNM.out _ (HIQ.out.keep (below_alloc _ _) (Nat.le_refl _))).mono ?_; rintro e w3 ⟨rfl, hb3⟩; obtain ⟨hcc3, hff3⟩ := bcell hb3; have z3 := hb3.size; have zw3 : wr.heap.size < w3.heap.size := (by first | omega | (simp at z3; omega)); have zb3 : b < w3.heap.size := (by omega); have zt3 : gt < w3.heap.size := (by omega); have zp3 : gp < w3.heap.size := (by omega); have zz3 : w.heap.size < w3.heap.size := (by omega); have HB3 : Hid (Below wr.heap.size wr w3) := below_then (below_alloc _ _) hb3)
              go_quiet (fail)
              go_wp2_with (go_at_call 33; refine (HGO.out _ (HOI.out.keep fun _ _ _ h => h.keep (below_drewN HB3.out _))).mono ?_; rintro e w4 ⟨rfl, hb4⟩; obtain ⟨hcc4, hff4⟩ := bcell hb4; have z4 := hb4.size)
              all_goals go_roundw
              all_goals first | (case rel => exact ⟨k + 1, by omega, by first | rfl | go_num, hnext, below_then (below_then hbl (below_drewN HB3.out _)) hb4⟩) | (simp [intOf]; omega)
            | true =>
              have hend := hgl rfl
              have hcn := HCLR.out (k + 1) hend
              have k3 : (k : Int) + 1 < (ol : Int) := by omega
              obtain ⟨B2, hB2⟩ : ∃ x, OC.landsB (ops.drop (k + 1)) = x := ⟨_, rfl⟩
              rw [hB2] at hcn hQ2
              clear hB2
              cases B2 with
              | false =>
                have hnext : Hid (R = OC.reaQ ops PL (ops.drop (k + 1))) := by show _ = _; rw [hQ2, if_neg (by simp)]
                clear hQ2
                go_wp2_with (go_at_call 32; refine (HNM.out _ (HIQ.out.keep (below_alloc _ _) (Nat.le_refl _))).mono ?_; rintro e w3 ⟨rfl, hb3⟩; obtain ⟨hcc3, hff3⟩ := bcell hb3; have z3 := hb3.size; have zw3 : wr.heap.size < w3.heap.size := (by first | omega | (simp at z3; omega)); have zb3 : b < w3.heap.size := (by omega); have zt3 : gt < w3.heap.size := (by omega); have zp3 : gp < w3.heap.size := (by omega); have zz3 : w.heap.size < w3.heap.size := (by omega); have HB3 : Hid (Below wr.heap.size wr w3) := below_then (below_alloc _ _) hb3)
                go_quiet (fail)
                go_wp2_with (go_at_call 33; refine (HGO.out _ (HOI.out.keep fun _ _ _ h => h.keep (below_drewN HB3.out _))).mono ?_; rintro e w4 ⟨rfl, hb4⟩; obtain ⟨hcc4, hff4⟩ := bcell hb4; have z4 := hb4.size; have hn4 := (hb4.cell (p := ⟨gt, k + 1, none⟩) zt3).trans ((HB3.out.cell (p := ⟨gt, k + 1, none⟩) hgt1).trans hcn))
                all_goals go_roundw
                all_goals first | (case rel => exact ⟨k + 1, by omega, by first | rfl | go_num, hnext, below_then (below_then hbl (below_drewN HB3.out _)) hb4⟩) | (simp [intOf]; omega)
              | true =>
                have hf : Hid (R = false) := by show _ = _; rw [hQ2, if_pos ⟨h19, rfl, rfl⟩]
                clear hQ2
                go_wp2_with (go_at_call 32; refine (HNM.out _ (HIQ.out.keep (below_alloc _ _) (Nat.le_refl _))).mono ?_; rintro e w3 ⟨rfl, hb3⟩; obtain ⟨hcc3, hff3⟩ := bcell hb3; have z3 := hb3.size; have zw3 : wr.heap.size < w3.heap.size := (by first | omega | (simp at z3; omega)); have zb3 : b < w3.heap.size := (by omega); have zt3 : gt < w3.heap.size := (by omega); have zp3 : gp < w3.heap.size := (by omega); have zz3 : w.heap.size < w3.heap.size := (by omega); have HB3 : Hid (Below wr.heap.size wr w3) := below_then (below_alloc _ _) hb3)
                go_quiet (fail)
                go_wp2_with (go_at_call 33; refine (HGO.out _ (HOI.out.keep fun _ _ _ h => h.keep (below_drewN HB3.out _))).mono ?_; rintro e w4 ⟨rfl, hb4⟩; obtain ⟨hcc4, hff4⟩ := bcell hb4; have z4 := hb4.size; have hn4 := (hb4.cell (p := ⟨gt, k + 1, none⟩) zt3).trans ((HB3.out.cell (p := ⟨gt, k + 1, none⟩) hgt1).trans hcn))
                all_goals go_ret
                all_goals exact ⟨by rw [hf.out]; rfl, below_then (below_then HBL.out (below_then hbl (below_drewN HB3.out _))) hb4⟩
          | true =>
            have hf : Hid (R = false) := by show _ = _; rw [hQ, if_pos ⟨hL0, by simp [h27]⟩]
            clear hQ
            go_wp2_with (go_at_call 32; refine (HNM.out _ (HIQ.out.keep (below_alloc _ _) (Nat.le_refl _))).mono ?_; rintro e w3 ⟨rfl, hb3⟩; obtain ⟨hcc3, hff3⟩ := bcell hb3; have z3 := hb3.size; have zw3 : wr.heap.size < w3.heap.size := (by first | omega | (simp at z3; omega)); have zb3 : b < w3.heap.size := (by omega); have zt3 : gt < w3.heap.size := (by omega); have zp3 : gp < w3.heap.size := (by omega); have zz3 : w.heap.size < w3.heap.size := (by omega); have HB3 : Hid (Below wr.heap.size wr w3) := below_then (below_alloc _ _) hb3)
            go_quiet (fail)
            go_wp2
            all_goals go_ret
            all_goals exact ⟨by rw [hf.out]; rfl, below_drewN (below_then HBL.out (below_then hbl HB3.out)) _⟩
    · obtain rfl : ol = k := by omega
      have hfin : Hid (R = true) := by show _ = _; rw [hq.out, List.drop_eq_nil_of_le (by rw [← HO.out]; exact Nat.le_refl _)]; rfl
      clear hq
      go_wp2
      all_goals go_ret
      all_goals exact ⟨by rw [hfin.out]; rfl, below_then HBL.out hbl⟩
end Go.Proofs.YtfnkafnjpldaoaaDoor
namespace Go.Proofs.YtfnkafnjpldaoaaDoor
open Go.RowKit
set_option linter.unusedVariables false
set_option linter.unusedSimpArgs false
theorem folQ_at : ∀ {l : List OC.Op}, OC.folQ l = true → ∀ k, k < l.length → (l.getD k OC.oz).op = 19 → k + 1 < l.length
  | [], _, k, h, _ => by simp at h
  | o :: r, h, k, hk, h19 => by
    rw [OC.folQ] at h
    by_cases c : o.op = 19 ∧ ¬ (OC.nx r = 18 ∨ OC.nx r = 28 ∨ OC.nx r = 19)
    · rw [if_pos c] at h; cases h
    rw [if_neg c] at h
    cases k with
    | zero =>
      have h0 : o.op = 19 := h19
      cases r with
      | nil => exact absurd ⟨h0, by simp [OC.nx]⟩ c
      | cons x r => simp
    | succ k =>
      have := folQ_at h k (by simpa using hk) h19
      simp at this ⊢; omega
theorem proQ_at {P : Int} : ∀ {l : List OC.Op} {p : Int}, OC.proQ P p l = true → ∀ k, k < l.length → OC.goQ (l.getD k OC.oz) (l.drop (k + 1)) = true → k + 1 < l.length
  | [], _, _, k, h, _ => by simp at h
  | o :: r, p, h, k, hk, hg => by
    rw [OC.proQ] at h
    by_cases a1 : (if o.op = 24 then p + 1 else p) = 0 ∨ (o.op = 24 ∧ o.n ≠ (if o.op = 24 then p + 1 else p))
    · rw [if_pos a1] at h; cases h
    rw [if_neg a1] at h
    by_cases a2 : OC.nx r = 24 ∧ OC.goQ o r = true
    · rw [if_pos a2] at h; cases h
    rw [if_neg a2] at h
    cases k with
    | zero =>
      have h0 : OC.goQ o r = true := hg
      cases r with
      | nil => exact absurd ⟨rfl, h0⟩ a2
      | cons x r => simp
    | succ k =>
      have := proQ_at h k (by simpa using hk) hg
      simp at this ⊢; omega
/-- what code that is as said (but for depths) gives to those who look at depths -/
theorem isCode_facts {c : OC.Code} (hw : OC.withinQ c = true) (h : isCodeQ c = true) : NumOk c ∧ 0 ≤ c.labels ∧ c.labels ≤ 20000 ∧ (∀ k, k < c.ops.length → (c.ops.getD k OC.oz).op = 19 → k + 1 < c.ops.length) ∧ (∀ k, k < c.ops.length → OC.goQ (c.ops.getD k OC.oz) (c.ops.drop (k + 1)) = true → k + 1 < c.ops.length) := by
  unfold isCodeQ at h
  simp only [Bool.and_eq_true, decide_eq_true_eq] at h
  obtain ⟨⟨⟨⟨⟨⟨i1, i2⟩, i3⟩, i4⟩, i5⟩, i6⟩, i7⟩ := h
  have hn := nums_of hw i2
  obtain ⟨hl, hor, -⟩ := (lab_iff hn i3 i4).1 i5
  obtain ⟨-, -, hf, -⟩ := (ord_iff c.procs c.labels c.ops true 0 0 0 (fun o h => (m_of_numB (hn o h)).1) (Int.le_refl _) (fun _ => rfl) (fun h => by cases h)).1 hor
  exact ⟨hn, hl, (within_bd hw).2.2.2, folQ_at hf, proQ_at i4⟩
set_option maxRecDepth 100000 in
set_option maxHeartbeats 8000000 in
theorem CheckQ_c (c : OC.Code) (da oa ga : Option Addr) (dl dc ol oc gl gc : Nat) (w : World) (hc : CodeIn w c da oa ga dl dc ol oc gl gc) (hs : Small c) (hi : InstAt w) :
    Calls Tryd.prog 11 #[codeV c da oa ga dl dc ol oc gl gc] w fun e w' => e = .returned (.int .i64 (checkQ c : Nat)) ∧ Below w.heap.size w w' := by
  obtain ⟨hol, hoc, hom⟩ := hc.ops.len
  have hol2 := hs.ops
  rw [← hol] at hol2
  have HC := Lib.hid hc
  have HI := Lib.hid hi
  obtain ⟨E, hE0⟩ : ∃ E, checkQ c = E := ⟨_, rfl⟩
  rw [hE0]
  obtain ⟨WB, hWB⟩ : ∃ x, OC.withinQ c = x := ⟨_, rfl⟩
  have HWL : Hid (∀ W, CodeIn W c da oa ga dl dc ol oc gl gc → Calls Tryd.prog 15 #[codeV c da oa ga dl dc ol oc gl gc] W fun e w' => e = .returned (.bool WB) ∧ Below W.heap.size W w') := fun W hW => by have h := isWithinP_c c da oa ga dl dc ol oc gl gc W hW hs; rwa [hWB] at h
  cases WB with
  | false =>
    have hE : Hid (E = 2) := by show _ = _; rw [← hE0]; unfold checkQ; rw [if_pos hWB]
    obtain ⟨name, data, ops, globals, procs, labels⟩ := c
    dsimp only at *
    clear hE0 hWB hc hs hi hol hol2 hoc hom
    go_enter Tryd.func11, Tryd.ntmps11
    go_wp2_with (go_at_call 15; refine (HWL.out _ (HC.out.keep (below_alloc w _))).mono ?_; rintro e w1 ⟨rfl, hb1⟩; obtain ⟨hcc1, hff1⟩ := bcell hb1; have z1 := hb1.size; have zw1 : w.heap.size < w1.heap.size := (by first | omega | (simp at z1; omega)))
    all_goals go_ret
    all_goals exact ⟨by rw [hE.out]; rfl, (below_then (below_alloc w _) hb1)⟩
  | true =>
    obtain ⟨CB, hCB⟩ : ∃ x, isCodeQ c = x := ⟨_, rfl⟩
    have HIC : Hid (∀ W, CodeIn W c da oa ga dl dc ol oc gl gc → InstAt W → Calls Tryd.prog 16 #[codeV c da oa ga dl dc ol oc gl gc] W fun e w' => e = .returned (.bool CB) ∧ Below W.heap.size W w') := fun W hW h2 => by have h := isCodeP_c c da oa ga dl dc ol oc gl gc W hW hs h2 hWB; rwa [hCB] at h
    cases CB with
    | false =>
      have hE : Hid (E = 60) := by show _ = _; rw [← hE0]; unfold checkQ; rw [if_neg (by rw [hWB]; simp), if_pos hCB]
      obtain ⟨name, data, ops, globals, procs, labels⟩ := c
      dsimp only at *
      clear hE0 hWB hCB hc hs hi hol hol2 hoc hom
      go_enter Tryd.func11, Tryd.ntmps11
      go_wp2_with (first
        | (go_at_call 15; refine (HWL.out _ (HC.out.keep (below_alloc w _))).mono ?_; rintro e w1 ⟨rfl, hb1⟩; obtain ⟨hcc1, hff1⟩ := bcell hb1; have z1 := hb1.size; have zw1 : w.heap.size < w1.heap.size := (by first | omega | (simp at z1; omega)))
        | (go_at_call 16; refine (HIC.out _ (HC.out.keep (below_then (below_alloc w _) hb1)) (HI.out.keep (below_then (below_alloc w _) hb1) (Nat.le_refl _))).mono ?_; rintro e w2 ⟨rfl, hb2⟩; obtain ⟨hcc2, hff2⟩ := bcell hb2; have z2 := hb2.size; have zw2 : w.heap.size < w2.heap.size := (by first | omega | (simp at z2; omega))))
      all_goals go_ret
      all_goals exact ⟨by rw [hE.out]; rfl, (below_then (below_then (below_alloc w _) hb1) hb2)⟩
    | true =>
      obtain ⟨hn, hl0, hl1, hf, hg⟩ := isCode_facts hWB hCB
      obtain ⟨KB, hKB⟩ : ∃ x, OC.kepQ 0 0 c.ops = x := ⟨_, rfl⟩
      obtain ⟨RB, hRB⟩ : ∃ x, OC.reaQ c.ops (OC.plaQ 0 c.ops (List.replicate (c.labels + 1).toNat 0)) c.ops = x := ⟨_, rfl⟩
      have hst : E = if (KB && RB) = false then 61 else 0 := by rw [← hE0]; unfold checkQ stackQ; rw [if_neg (by rw [hWB]; simp), if_neg (by rw [hCB]; simp), hKB, hRB]
      have HKD : Hid (∀ W, RdO W (.slice oa ol oc) c.ops → Calls Tryd.prog 17 #[.slice oa ol oc] W fun e w' => e = .returned (.bool KB) ∧ Below W.heap.size W w') := fun W hW => by have h := keepsDepthsP_c c.data.length c.procs c.labels c.ops oa ol oc W hW hn hol2; rwa [hKB] at h
      have HRT : Hid (∀ W, CodeIn W c da oa ga dl dc ol oc gl gc → InstAt W → Calls Tryd.prog 18 #[codeV c da oa ga dl dc ol oc gl gc] W fun e w' => e = .returned (.bool RB) ∧ Below W.heap.size W w') := fun W hW h2 => by have h := reachesTakesP_c c da oa ga dl dc ol oc gl gc W hW h2 hn hl0 hl1 hol2 hf hg; rwa [hRB] at h
      obtain ⟨name, data, ops, globals, procs, labels⟩ := c
      dsimp only at *
      clear hE0 hWB hCB hc hs hi hol hol2 hoc hom hn hl0 hl1 hf hg hKB hRB
      cases KB with
      | false =>
        have hE : Hid (E = 61) := hst
        clear hst
        go_enter Tryd.func11, Tryd.ntmps11
        go_wp2_with (first
          | (go_at_call 15; refine (HWL.out _ (HC.out.keep (below_alloc w _))).mono ?_; rintro e w1 ⟨rfl, hb1⟩; obtain ⟨hcc1, hff1⟩ := bcell hb1; have z1 := hb1.size; have zw1 : w.heap.size < w1.heap.size := (by first | omega | (simp at z1; omega)))
          | (go_at_call 16; refine (HIC.out _ (HC.out.keep (below_then (below_alloc w _) hb1)) (HI.out.keep (below_then (below_alloc w _) hb1) (Nat.le_refl _))).mono ?_; rintro e w2 ⟨rfl, hb2⟩; obtain ⟨hcc2, hff2⟩ := bcell hb2; have z2 := hb2.size; have zw2 : w.heap.size < w2.heap.size := (by first | omega | (simp at z2; omega)))
          | (go_at_call 17; refine (HKD.out _ (HC.out.keep (below_then (below_then (below_alloc w _) hb1) hb2)).ops).mono ?_; rintro e w3 ⟨rfl, hb3⟩; obtain ⟨hcc3, hff3⟩ := bcell hb3; have z3 := hb3.size; have zw3 : w.heap.size < w3.heap.size := (by first | omega | (simp at z3; omega))))
        all_goals go_ret
        all_goals exact ⟨by rw [hE.out]; rfl, (below_then (below_then (below_then (below_alloc w _) hb1) hb2) hb3)⟩
      | true =>
        cases RB with
        | false =>
          have hE : Hid (E = 61) := hst
          clear hst
          go_enter Tryd.func11, Tryd.ntmps11
          go_wp2_with (first
            | (go_at_call 15; refine (HWL.out _ (HC.out.keep (below_alloc w _))).mono ?_; rintro e w1 ⟨rfl, hb1⟩; obtain ⟨hcc1, hff1⟩ := bcell hb1; have z1 := hb1.size; have zw1 : w.heap.size < w1.heap.size := (by first | omega | (simp at z1; omega)))
            | (go_at_call 16; refine (HIC.out _ (HC.out.keep (below_then (below_alloc w _) hb1)) (HI.out.keep (below_then (below_alloc w _) hb1) (Nat.le_refl _))).mono ?_; rintro e w2 ⟨rfl, hb2⟩; obtain ⟨hcc2, hff2⟩ := bcell hb2; have z2 := hb2.size; have zw2 : w.heap.size < w2.heap.size := (by first | omega | (simp at z2; omega)))
            | (go_at_call 17; refine (HKD.out _ (HC.out.keep (below_then (below_then (below_alloc w _) hb1) hb2)).ops).mono ?_; rintro e w3 ⟨rfl, hb3⟩; obtain ⟨hcc3, hff3⟩ := bcell hb3; have z3 := hb3.size; have zw3 : w.heap.size < w3.heap.size := (by first | omega | (simp at z3; omega)))
            | (go_at_call 18; refine (HRT.out _ (HC.out.keep (below_then (below_then (below_then (below_alloc w _) hb1) hb2) hb3)) (HI.out.keep (below_then (below_then (below_then (below_alloc w _) hb1) hb2) hb3) (Nat.le_refl _))).mono ?_; rintro e w4 ⟨rfl, hb4⟩; obtain ⟨hcc4, hff4⟩ := bcell hb4; have z4 := hb4.size; have zw4 : w.heap.size < w4.heap.size := (by first | omega | (simp at z4; omega))))
          all_goals go_ret
          all_goals exact ⟨by rw [hE.out]; rfl, (below_then (below_then (below_then (below_then (below_alloc w _) hb1) hb2) hb3) hb4)⟩
        | true =>
          have hE : Hid (E = 0) := hst
          clear hst
          go_enter Tryd.func11, Tryd.ntmps11
          go_wp2_with (first
            | (go_at_call 15; refine (HWL.out _ (HC.out.keep (below_alloc w _))).mono ?_; rintro e w1 ⟨rfl, hb1⟩; obtain ⟨hcc1, hff1⟩ := bcell hb1; have z1 := hb1.size; have zw1 : w.heap.size < w1.heap.size := (by first | omega | (simp at z1; omega)))
            | (go_at_call 16; refine (HIC.out _ (HC.out.keep (below_then (below_alloc w _) hb1)) (HI.out.keep (below_then (below_alloc w _) hb1) (Nat.le_refl _))).mono ?_; rintro e w2 ⟨rfl, hb2⟩; obtain ⟨hcc2, hff2⟩ := bcell hb2; have z2 := hb2.size; have zw2 : w.heap.size < w2.heap.size := (by first | omega | (simp at z2; omega)))
            | (go_at_call 17; refine (HKD.out _ (HC.out.keep (below_then (below_then (below_alloc w _) hb1) hb2)).ops).mono ?_; rintro e w3 ⟨rfl, hb3⟩; obtain ⟨hcc3, hff3⟩ := bcell hb3; have z3 := hb3.size; have zw3 : w.heap.size < w3.heap.size := (by first | omega | (simp at z3; omega)))
            | (go_at_call 18; refine (HRT.out _ (HC.out.keep (below_then (below_then (below_then (below_alloc w _) hb1) hb2) hb3)) (HI.out.keep (below_then (below_then (below_then (below_alloc w _) hb1) hb2) hb3) (Nat.le_refl _))).mono ?_; rintro e w4 ⟨rfl, hb4⟩; obtain ⟨hcc4, hff4⟩ := bcell hb4; have z4 := hb4.size; have zw4 : w.heap.size < w4.heap.size := (by first | omega | (simp at z4; omega))))
          all_goals go_ret
          all_goals exact ⟨by rw [hE.out]; rfl, (below_then (below_then (below_then (below_then (below_alloc w _) hb1) hb2) hb3) hb4)⟩
end Go.Proofs.YtfnkafnjpldaoaaDoor
namespace Go.Proofs.YtfnkafnjpldaoaaDoor
open Go.RowKit
set_option linter.unusedVariables false
set_option linter.unusedSimpArgs false
abbrev depA (c : OC.Code) : List Int := if checkE c = 0 then depG 0 c.ops else []
abbrev roomA (c : OC.Code) : List Int := if checkE c = 0 then roomG c.ops (depG 0 c.ops) [] else []
abbrev jmpA (c : OC.Code) : List Int := if checkE c = 0 then jmpG c.ops (List.replicate c.labels.toNat 0) else []
/-- the call gives a list of numbers and an error -/
def ListE (xs : List Int) (E : Nat) (e : Ending) (w' : World) : Prop := ∃ v, e = .returned (.tuple #[v, .int .i64 (E : Int)]) ∧ Rd .i64 w' v xs
set_option maxRecDepth 100000 in
set_option maxHeartbeats 8000000 in
theorem DepthsP_c (c : OC.Code) (da oa ga : Option Addr) (dl dc ol oc gl gc : Nat) (w : World) (hc : CodeIn w c da oa ga dl dc ol oc gl gc) (hs : Small c) (hi : InstAt w) :
    Calls Tryd.prog 6 #[codeV c da oa ga dl dc ol oc gl gc] w fun e w' => ListE (depA c) (checkQ c) e w' ∧ Below w.heap.size w w' := by
  obtain ⟨hol, hoc, hom⟩ := hc.ops.len
  have HC := Lib.hid hc
  have HI := Lib.hid hi
  have HO := Lib.hid hol
  have hol2 := hs.ops
  rw [← hol] at hol2
  obtain ⟨E, hE⟩ : ∃ E, checkQ c = E := ⟨_, rfl⟩
  have HCK : Hid (∀ W, CodeIn W c da oa ga dl dc ol oc gl gc → InstAt W → Calls Tryd.prog 11 #[codeV c da oa ga dl dc ol oc gl gc] W fun e w' => e = .returned (.int .i64 (E : Int)) ∧ Below W.heap.size W w') := fun W hW h2 => by have h := CheckQ_c c da oa ga dl dc ol oc gl gc W hW hs h2; rwa [hE] at h
  unfold ListE
  by_cases hE0 : E = 0
  case neg =>
    have hA : depA c = [] := by unfold depA; rw [if_neg (fun h => hE0 (hE.symm.trans ((checkQ_zero c).2 h)))]
    rw [hA, hE]
    have ee : ((E : Int) != 0) = true := by simp; omega
    obtain ⟨name, data, ops, globals, procs, labels⟩ := c
    clear hE hE0 hs hc hol hA hi
    go_enter Tryd.func6, Tryd.ntmps6
    go_wp2_with (go_at_call 11; refine (HCK.out _ (HC.out.keep (below_alloc _ _)) (HI.out.keep (below_alloc _ _) (Nat.le_refl _))).mono ?_; rintro e w1 ⟨rfl, hb1⟩)
    go_ret2
    exact ⟨⟨_, rfl, Rd.nil _ _⟩, below_then (below_alloc _ _) hb1⟩
  subst hE0
  have hEE : checkE c = 0 := (checkQ_zero c).1 hE
  have hA : depA c = depG 0 c.ops := by unfold depA; rw [if_pos hEE]
  rw [hA, hE]
  clear hA
  obtain ⟨hnum, -⟩ := checkE_ok hEE
  obtain ⟨DG, hDG⟩ : ∃ x, depG 0 c.ops = x := ⟨_, rfl⟩
  have hdl : DG.length = ol := by rw [← hDG, depG_len, hol]
  have HDP : Hid (∀ W, RdO W (.slice oa ol oc) c.ops → Calls Tryd.prog 12 #[.slice oa ol oc] W fun e w' => (∃ g, e = .returned (.slice (some ⟨g, 0, none⟩) ol ol) ∧ W.heap.size ≤ g ∧ w'.ownsRow 0 3 1 (.slice (some ⟨g, 0, none⟩) ol ol) ol (DG.map (.int .i64))) ∧ Below W.heap.size W w') := fun W hW => by have h := depthsP_c c.data.length c.procs c.labels c.ops oa ol oc W hW hnum hol2; rwa [hDG] at h
  rw [hDG]
  have HDL := Lib.hid hdl
  obtain ⟨name, data, ops, globals, procs, labels⟩ := c
  dsimp only at *
  clear hE hEE hs hc hol hi hnum hDG hdl
  go_enter Tryd.func6, Tryd.ntmps6
  go_wp2_with (first
    | (go_at_call 11; refine (HCK.out _ (HC.out.keep (below_alloc _ _)) (HI.out.keep (below_alloc _ _) (Nat.le_refl _))).mono ?_; rintro e w1 ⟨rfl, hb1⟩; obtain ⟨hcc1, hff1⟩ := bcell hb1; have z1 := hb1.size; have zw1 : w.heap.size < w1.heap.size := (by first | omega | (simp at z1; omega)))
    | (go_at_call 12; refine (HDP.out _ (HC.out.keep (below_then (below_alloc _ _) hb1)).ops).mono ?_; rintro e w2 ⟨⟨g, rfl, hgw, hown⟩, hb2⟩))
  go_ret2
  exact ⟨⟨_, rfl, Rd.of_owns hown (by rw [HDL.out]; omega)⟩, below_then (below_then (below_alloc _ _) hb1) hb2⟩
end Go.Proofs.YtfnkafnjpldaoaaDoor
