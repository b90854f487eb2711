/- How often labels are named, in the document's words. -/
import Derived.Test.YthlakfgpmggceaaDoorOcDe
namespace Go.Proofs.YthlakfgpmggceaaDoor
open Go.RowKit
set_option linter.unusedVariables false
set_option linter.unusedSimpArgs false
def jmpG : List OC.Op → List Int → List Int
  | [], t => t
  | o :: r, t => jmpG r (if 0 < OC.label o then t.set ((OC.label o).toNat - 1) (t.getD ((OC.label o).toNat - 1) 0 + 1) else t)
theorem jmpG_len : ∀ (l : List OC.Op) (t : List Int), (jmpG l t).length = t.length
  | [], _ => rfl
  | o :: r, t => by rw [jmpG, jmpG_len r]; split <;> simp
set_option maxRecDepth 100000 in
set_option maxHeartbeats 8000000 in
theorem JumpsR_c (c : OC.Code) (da oa ga : Option Addr) (dl dc ol oc gl gc : Nat) (w : World) (hc : CodeIn w c da oa ga dl dc ol oc gl gc) (hs : Small c) :
    Calls Tryd.prog 25 #[codeV c da oa ga dl dc ol oc gl gc] w fun e w' => (∃ v, e = .returned (.tuple #[v, .int .i64 (checkE c : Nat)]) ∧ Rd .i64 w' v (if checkE c = 0 then jmpG c.ops (List.replicate c.labels.toNat 0) else [])) ∧ Below w.heap.size w w' := by
  obtain ⟨hol, hoc, _⟩ := hc.ops.len
  have HC := Lib.hid hc
  have HO := Lib.hid hol
  have hol2 := hs.ops
  rw [← hol] at hol2
  obtain ⟨ii, hi, hz0, hz1, hz2⟩ := info_parts int_info
  have HI := Lib.hid hi
  have HZ0 := Lib.hid hz0
  have HZ1 := Lib.hid hz1
  have HZ2 := Lib.hid hz2
  clear hi hz0 hz1 hz2
  obtain ⟨E, hE⟩ : ∃ E, checkE c = E := ⟨_, rfl⟩
  have HCK : Hid (∀ W, CodeIn W c da oa ga dl dc ol oc gl gc → Calls Tryd.prog 16 #[codeV c da oa ga dl dc ol oc gl gc] W fun e w' => e = .returned (.int .i64 (E : Int)) ∧ Below W.heap.size W w') := fun W hW => by have h := CheckR_c c da oa ga dl dc ol oc gl gc W hW hs; rwa [hE] at h
  rw [hE]
  by_cases hE0 : E = 0
  case neg =>
    rw [if_neg hE0]
    have ee : ((E : Int) != 0) = true := by simp; omega
    obtain ⟨name, data, ops, globals, procs, labels⟩ := c
    clear hE hE0 hs hc hol
    go_enter Tryd.func25, Tryd.ntmps25
    go_wp2_with (go_at_call 16; refine (HCK.out _ (HC.out.keep (below_alloc _ _))).mono ?_; rintro e w1 ⟨rfl, hb1⟩)
    go_ret2
    exact ⟨⟨_, rfl, Rd.nil _ _⟩, below_then (below_alloc _ _) hb1⟩
  subst hE0
  rw [if_pos rfl]
  obtain ⟨hnum, hord, hl0, hl1, _, _, _⟩ := checkE_ok hE
  have HN := Lib.hid hnum
  obtain ⟨name, data, ops, globals, procs, labels⟩ := c
  dsimp only at *
  obtain ⟨lb, hlb⟩ : ∃ lb : Nat, labels = (lb : Int) := ⟨labels.toNat, by omega⟩
  subst hlb
  rw [Int.toNat_natCast]
  have hlb1 : lb ≤ 20000 := by omega
  clear hE hs hc hol hnum hord hl0 hl1
  go_enter Tryd.func25, Tryd.ntmps25
  go_wp2_with (first
    | (go_at_call 16; refine (HCK.out _ (HC.out.keep (below_alloc _ _))).mono ?_; rintro e w1 ⟨rfl, hb1⟩; have HB := (BoxC.new w ⟨name, data, ops, globals, procs, (lb : Int)⟩ da oa ga dl dc ol oc gl gc 26).keep hb1 (by simp); obtain ⟨c0, c1, c2, c3, c4, c5⟩ := HB)
    | (at_make; refine wpList_make_full _ rfl _ _ 34 rfl 0 3 ii (.int .i64 0) 1 Tryd.underlying34 HI.out HZ0.out HZ1.out .i64 .i64 _ _ lb rfl rfl rfl rfl (by rw [HZ2.out]; omega) (by unfold maxLen; omega) (Nat.zero_le _) ?_; intro w2 hown2 hg2))
  have HB2 : Hid (BoxC w2 w.heap.size ⟨name, data, ops, globals, procs, (lb : Int)⟩ da oa ga dl dc ol oc gl gc) := BoxC.keep (w := w1) ⟨c0, c1, c2, c3, c4, c5⟩ (below_grown hg2) (by have := hb1.size; simp at this; omega)
  have HBL := Lib.hid (below_then (below_then (below_alloc w _) hb1) (below_grown hg2))
  obtain ⟨g, hg⟩ : ∃ g, w1.heap.size = g := ⟨_, rfl⟩
  have hgw : w.heap.size < g := by have := hb1.size; simp at this; omega
  rw [hg] at hown2 ⊢
  have HOW : Hid (w2.ownsRow 0 3 1 (.slice (some ⟨g, 0, none⟩) lb lb) lb ((List.replicate lb (0 : Int)).map (.int .i64))) := by show World.ownsRow _ _ _ _ _ _ _; rw [← zeros_eq]; exact hown2
  clear hb1 hg2 hg hown2 c0 c1 c2 c3 c4 c5
  go_wp2
  go_loopw [6] (fun i wr => ∃ (k : Nat) (T : List Int), k ≤ ol ∧ i = .int .i64 k ∧ T.length = lb ∧ (∀ z ∈ T, 0 ≤ z ∧ z ≤ (k : Int)) ∧ wr.ownsRow 0 3 1 (.slice (some ⟨g, 0, none⟩) lb lb) lb (T.map (.int .i64)) ∧ Hid (jmpG ops (List.replicate lb 0) = jmpG (ops.drop k) T) ∧ BoxC wr w.heap.size ⟨name, data, ops, globals, procs, (lb : Int)⟩ da oa ga dl dc ol oc gl gc ∧ Below w.heap.size w wr) (fun i _ => ol - (intOf i).toNat)
  case atStart => exact ⟨0, List.replicate lb 0, Nat.zero_le _, rfl, by simp, (fun z hz => by have := List.eq_of_mem_replicate hz; omega), HOW.out, (rfl : jmpG ops _ = _), HB2.out, HBL.out⟩
  case round =>
    clear HB2 HBL HOW
    obtain ⟨k, T, hk, rfl, hTl, hTb, hown, hq, hbox, hbl⟩ := hrel
    have HBOX := Lib.hid hbox
    have hwz := hbox.lt
    have hgz : g < wr.heap.size := (hown.lt _ rfl).2
    have HOWN := Lib.hid hown
    have HTL := Lib.hid hTl
    have HTB := Lib.hid hTb
    obtain ⟨c0, c1, c2, c3, c4, c5⟩ := hbox
    by_cases hlt : k < ol
    · obtain ⟨hx1, b, off, rfl, hat⟩ := HC.out.ops.get hlt
      clear hx1
      have hbw : b < w.heap.size := World.block_lt_of_cell? _ _ hat.1
      obtain ⟨h0, h1, h2⟩ := hat.keep hbl
      have hkl : k < ops.length := by rw [← HO.out]; exact hlt
      have hd := dropAt (d := OC.oz) hkl
      have hnb := HN.out _ (getD_map_range ops OC.oz hkl)
      generalize ops.getD k OC.oz = x at *
      obtain ⟨L, hL⟩ : ∃ L, OC.label x = L := ⟨_, rfl⟩
      have HLA : Hid (∀ W, Calls Tryd.prog 36 #[opVal x] W fun e w' => e = .returned (.int .i64 L) ∧ Below W.heap.size W w') := fun W => by have h := labelR_c x W; rwa [hL] at h
      have hlab := numB_label hnb
      dsimp only at hlab
      rw [hL] at hlab
      obtain ⟨op, n, m⟩ := x
      dsimp only at h0 h1 h2
      have k1 : (k : Int) < (ol : Int) := by omega
      have hkb : k ≤ 40100 := by omega
      have sb : b < wr.heap.size := by omega
      have mg : ¬ g = w.heap.size := by omega
      by_cases hL0 : 0 < L
      · obtain ⟨j, hj⟩ : ∃ j : Nat, L = (j : Int) + 1 := ⟨(L - 1).toNat, by omega⟩
        subst hj
        have hjl : j < lb := by omega
        have hcell : wr.cell? ⟨g, j, none⟩ = some (.int .i64 (T.getD j 0)) := by rw [hown.cellAt j (by omega)]; simp [hTl, hjl]
        have hfz := hown.frozenAt j
        have hzb := hTb _ (getD_map_range T 0 (by rw [hTl]; exact hjl))
        have hnext : Hid (jmpG ops (List.replicate lb 0) = jmpG (ops.drop (k + 1)) (T.set j (T.getD j 0 + 1))) := by
          show _ = _
          rw [hq.out, hd, jmpG, hL, if_pos hL0, show ((j : Int) + 1).toNat - 1 = j from by omega]
        have hset : Hid (∀ z ∈ T.set j (T.getD j 0 + 1), 0 ≤ z ∧ z ≤ ((k + 1 : Nat) : Int)) := by
          intro z hz
          rcases List.mem_or_eq_of_mem_set hz with h | h
          · have := HTB.out z h; omega
          · omega
        obtain ⟨z, hz⟩ : ∃ z, T.getD j 0 = z := ⟨_, rfl⟩
        rw [hz] at hcell hzb hnext hset
        obtain ⟨hzb1, hzb2⟩ := hzb
        have j1 : (j : Int) < (lb : Int) := by omega
        have j2 : (0 : Int) < (j : Int) + 1 := by omega
        clear hd hq hL hz hnb hlab hL0 hTl hTb hown
        go_wp2_with (go_at_call 36; refine (HLA.out _).mono ?_; rintro e w3 ⟨rfl, hb3⟩; obtain ⟨hcc3, hff3⟩ := bcell hb3)
        go_roundw
        case rel => exact ⟨k + 1, T.set j (z + 1), by omega, by go_num, by rw [List.length_set]; exact HTL.out, hset.out, by rw [List.map_set]; exact ((owns_keep' HOWN.out hb3).stored j (.int .i64 (z + 1))).1, hnext, ⟨(set_other _ _ _ _ _ _ (by omega)).trans (HBOX.out.keep hb3 hwz).1, (set_other _ _ _ _ _ _ (by omega)).trans (HBOX.out.keep hb3 hwz).2.1, (set_other _ _ _ _ _ _ (by omega)).trans (HBOX.out.keep hb3 hwz).2.2.1, (set_other _ _ _ _ _ _ (by omega)).trans (HBOX.out.keep hb3 hwz).2.2.2.1, (set_other _ _ _ _ _ _ (by omega)).trans (HBOX.out.keep hb3 hwz).2.2.2.2.1, (set_other _ _ _ _ _ _ (by omega)).trans (HBOX.out.keep hb3 hwz).2.2.2.2.2⟩, (below_then hbl hb3).setCell (p := ⟨g, j, none⟩) (by show w.heap.size ≤ g; omega) _⟩
        case measure => simp [intOf]; omega
      · have hL1 : decide (0 < L) = false := by simpa using hL0
        have hnext : Hid (jmpG ops (List.replicate lb 0) = jmpG (ops.drop (k + 1)) T) := by
          show _ = _
          rw [hq.out, hd, jmpG, hL, if_neg hL0]
        have hset : Hid (∀ z ∈ T, 0 ≤ z ∧ z ≤ ((k + 1 : Nat) : Int)) := by intro z h; have := HTB.out z h; omega
        clear hd hq hL hnb hlab hTl hTb hown
        go_wp2_with (go_at_call 36; refine (HLA.out _).mono ?_; rintro e w3 ⟨rfl, hb3⟩; obtain ⟨hcc3, hff3⟩ := bcell hb3)
        go_roundw
        case rel => exact ⟨k + 1, T, by omega, by go_num, HTL.out, hset.out, owns_keep' HOWN.out hb3, hnext, HBOX.out.keep hb3 hwz, below_then hbl hb3⟩
        case measure => simp [intOf]; omega
    · obtain rfl : ol = k := by omega
      have HF : Hid (jmpG ops (List.replicate lb 0) = T) := by
        show _ = _
        rw [hq.out, List.drop_eq_nil_of_le (by rw [← HO.out]; exact Nat.le_refl _)]; rfl
      clear hq hTb
      go_wp2
      go_ret2
      exact ⟨⟨_, rfl, by rw [HF.out]; exact Rd.of_owns HOWN.out (by rw [HTL.out]; omega)⟩, hbl⟩
end Go.Proofs.YthlakfgpmggceaaDoor
