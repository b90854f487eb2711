/- Which label an instruction names: the program's way, by its table. -/
import Derived.Test.YtfnkafnjpldaoaaDoorOcPh
import Derived.Test.YtfnkafnjpldaoaaDoorOcIn
import Derived.Test.YtfnkafnjpldaoaaDoorOcOr
namespace Go.Proofs.YtfnkafnjpldaoaaDoor
open Go.RowKit
set_option linter.unusedVariables false
set_option linter.unusedSimpArgs false
/-- where an instruction has the number of a label -/
def labPtr (op : Int) (b o : Nat) : Value := if OC.kindN op = 6 then .pointer (some ⟨b, o + 1, none⟩) else if OC.kindM op = 6 then .pointer (some ⟨b, o + 2, none⟩) else .pointer none
set_option maxRecDepth 100000 in
set_option maxHeartbeats 4000000 in
theorem labelOfP_c (x : OC.Op) (b o : Nat) (w : World) (hi : InstAt w) (h0 : 0 ≤ x.op) (h1 : x.op ≤ 30) (ha : OpAt w b o x) :
    Calls Tryd.prog 39 #[.pointer (some ⟨b, o, none⟩)] w fun e w' => e = .returned (labPtr x.op b o) ∧ Below w.heap.size w w' := by
  obtain ⟨op, n, m⟩ := x
  dsimp only at h0 h1
  obtain ⟨s, t0, t1, t2⟩ := hi.at h0 h1
  obtain ⟨a0, a1, a2⟩ := ha
  dsimp only at a0 a1 a2
  have hlt := hi.lt
  obtain ⟨g, hg⟩ : ∃ g, instG = g := ⟨_, rfl⟩
  obtain ⟨j, hj⟩ : ∃ j : Nat, op = (j : Int) := ⟨op.toNat, by omega⟩
  subst hj
  rw [Int.toNat_natCast] at t0 t1 t2
  have j1 : (j : Int) < 31 := by omega
  have hbb : b < w.heap.size := World.block_lt_of_cell? _ _ a0
  unfold labPtr
  obtain ⟨kn, hkn⟩ : ∃ x, OC.kindN (j : Int) = x := ⟨_, rfl⟩
  obtain ⟨km, hkm⟩ : ∃ x, OC.kindM (j : Int) = x := ⟨_, rfl⟩
  rw [hkn] at t1 ⊢
  rw [hkm] at t2 ⊢
  clear hkn hkm hi h1 hg g
  by_cases e1 : kn = 6
  · rw [if_pos e1]
    subst e1
    go_enter Tryd.func39, Tryd.ntmps39
    go_wp2
    all_goals go_ret
    all_goals exact ⟨rfl, below_alloc _ _⟩
  rw [if_neg e1]
  have e1' : (kn == 6) = false := by simpa using e1
  by_cases e2 : km = 6
  · rw [if_pos e2]
    subst e2
    go_enter Tryd.func39, Tryd.ntmps39
    go_wp2
    all_goals go_ret
    all_goals exact ⟨rfl, below_alloc _ _⟩
  rw [if_neg e2]
  have e2' : (km == 6) = false := by simpa using e2
  go_enter Tryd.func39, Tryd.ntmps39
  go_wp2
  all_goals go_ret
  all_goals exact ⟨rfl, below_alloc _ _⟩
theorem kind6 {op : Int} (h0 : 0 ≤ op) (h1 : op ≤ 30) : (OC.kindN op = 6 ↔ op = 19 ∨ op = 20 ∨ op = 21 ∨ op = 22 ∨ op = 27 ∨ op = 29) ∧ (OC.kindM op = 6 ↔ op = 30) := by
  constructor
  · unfold OC.kindN; constructor
    · intro h; (repeat' split at h) <;> omega
    · intro h; rw [if_neg (by omega), if_neg (by omega), if_neg (by omega), if_neg (by omega), if_neg (by omega), if_pos h]
  · unfold OC.kindM; constructor
    · intro h; (repeat' split at h) <;> omega
    · intro h; rw [if_neg (by omega), if_neg (by omega), if_pos h]
set_option maxRecDepth 100000 in
set_option maxHeartbeats 4000000 in
theorem namedP_c (x : OC.Op) (w : World) (hi : InstAt w) (h0 : 0 ≤ x.op) (h1 : x.op ≤ 30) :
    Calls Tryd.prog 32 #[opVal x] w fun e w' => e = .returned (.int .i64 (OC.label x)) ∧ Below w.heap.size w w' := by
  have HP : Hid (∀ W b o, InstAt W → OpAt W b o x → Calls Tryd.prog 39 #[.pointer (some ⟨b, o, none⟩)] W fun e w' => e = .returned (labPtr x.op b o) ∧ Below W.heap.size W w') := fun W b o hi ha => labelOfP_c x b o W hi h0 h1 ha
  have HI := Lib.hid hi
  obtain ⟨op, n, m⟩ := x
  dsimp only at h0 h1 HP
  obtain ⟨k6, k7⟩ := kind6 h0 h1
  have HOX : Hid (∀ W : World, OpAt (W.alloc (.cells #[.int .i64 op, .int .i64 n, .int .i64 m] 35)) W.heap.size 0 ⟨op, n, m⟩) := fun W =>
    ⟨(World.cell?_alloc_at _ _ _ _ rfl).trans rfl, (World.cell?_alloc_at _ _ _ _ rfl).trans rfl, (World.cell?_alloc_at _ _ _ _ rfl).trans rfl⟩
  clear hi
  by_cases e1 : op = 19 ∨ op = 20 ∨ op = 21 ∨ op = 22 ∨ op = 27 ∨ op = 29
  · have hp : ∀ b o, labPtr op b o = .pointer (some ⟨b, o + 1, none⟩) := fun b o => by unfold labPtr; rw [if_pos (k6.2 e1)]
    simp only [hp] at HP
    by_cases e2 : op = 19
    · subst e2
      clear hp k6 k7 e1
      go_enter Tryd.func32, Tryd.ntmps32
      go_wp2_with (go_at_call 39; refine (HP.out _ _ _ (HI.out.keep (below_alloc _ _) (Nat.le_refl _)) (HOX.out _)).mono ?_; rintro e w1 ⟨rfl, hb1⟩; obtain ⟨hcc1, hff1⟩ := bcell hb1)
      all_goals go_ret
      all_goals exact ⟨by simp [OC.label], below_then (below_alloc _ _) hb1⟩
    · have hl : OC.label ⟨op, n, m⟩ = n := by unfold OC.label; rw [if_pos (by dsimp only; omega)]
      rw [hl]
      have e3 : (op == 19) = false := by simpa using e2
      clear hp k6 k7 e1 hl
      go_enter Tryd.func32, Tryd.ntmps32
      go_wp2_with (go_at_call 39; refine (HP.out _ _ _ (HI.out.keep (below_alloc _ _) (Nat.le_refl _)) (HOX.out _)).mono ?_; rintro e w1 ⟨rfl, hb1⟩; obtain ⟨hcc1, hff1⟩ := bcell hb1)
      all_goals go_ret
      all_goals exact ⟨rfl, below_then (below_alloc _ _) hb1⟩
  by_cases e2 : op = 30
  · have hp : ∀ b o, labPtr op b o = .pointer (some ⟨b, o + 2, none⟩) := fun b o => by unfold labPtr; rw [if_neg (fun h => e1 (k6.1 h)), if_pos (k7.2 e2)]
    simp only [hp] at HP
    have hl : OC.label ⟨op, n, m⟩ = m := by unfold OC.label; rw [if_neg (by dsimp only; omega), if_pos e2]
    rw [hl]
    subst e2
    clear hp k6 k7 e1 hl
    go_enter Tryd.func32, Tryd.ntmps32
    go_wp2_with (go_at_call 39; refine (HP.out _ _ _ (HI.out.keep (below_alloc _ _) (Nat.le_refl _)) (HOX.out _)).mono ?_; rintro e w1 ⟨rfl, hb1⟩; obtain ⟨hcc1, hff1⟩ := bcell hb1)
    all_goals go_ret
    all_goals exact ⟨rfl, below_then (below_alloc _ _) hb1⟩
  have hp : ∀ b o, labPtr op b o = .pointer none := fun b o => by unfold labPtr; rw [if_neg (fun h => e1 (k6.1 h)), if_neg (fun h => e2 (k7.1 h))]
  simp only [hp] at HP
  have hl : OC.label ⟨op, n, m⟩ = 0 := by unfold OC.label; rw [if_neg (by dsimp only; omega), if_neg e2]
  rw [hl]
  clear hp k6 k7 e1 hl e2
  go_enter Tryd.func32, Tryd.ntmps32
  go_wp2_with (go_at_call 39; refine (HP.out _ _ _ (HI.out.keep (below_alloc _ _) (Nat.le_refl _)) (HOX.out _)).mono ?_; rintro e w1 ⟨rfl, hb1⟩; obtain ⟨hcc1, hff1⟩ := bcell hb1)
  all_goals go_ret
  all_goals exact ⟨rfl, below_then (below_alloc _ _) hb1⟩
theorem kind_bd (op : Int) : (0 ≤ OC.kindN op ∧ OC.kindN op ≤ 10) ∧ (0 ≤ OC.kindM op ∧ OC.kindM op ≤ 10) := by
  constructor
  · unfold OC.kindN; (repeat' split) <;> omega
  · unfold OC.kindM; (repeat' split) <;> omega
set_option maxRecDepth 100000 in
set_option maxHeartbeats 8000000 in
theorem haveNumbersP_c (c : OC.Code) (da oa ga : Option Addr) (dl dc ol oc gl gc : Nat) (w : World) (hc : CodeIn w c da oa ga dl dc ol oc gl gc) (hi : InstAt w) :
    Calls Tryd.prog 23 #[codeV c da oa ga dl dc ol oc gl gc] w fun e w' => e = .returned (.bool (c.ops.all (OC.numQ c.data.length c.procs c.labels))) ∧ Below w.heap.size w w' := by
  obtain ⟨hdl, hdc, hdm⟩ := hc.data.len
  obtain ⟨hol, hoc, hom⟩ := hc.ops.len
  have HC := Lib.hid hc
  have HI := Lib.hid hi
  have HO := Lib.hid hol
  have hgw := hi.lt
  have HA : Hid (∀ k n W, 0 ≤ k ∧ k ≤ 10 → Calls Tryd.prog 36 #[.int .i64 k, .int .i64 n, codeV c da oa ga dl dc ol oc gl gc] W fun e w' => e = .returned (.bool (OC.allowQ (dl : Int) c.procs c.labels k n)) ∧ Below W.heap.size W w') := fun k n W hk => allowsP_c c da oa ga dl dc ol oc gl gc k n W hk hdm
  rw [← hdl]
  obtain ⟨R, hR⟩ : ∃ x, c.ops.all (OC.numQ dl c.procs c.labels) = x := ⟨_, rfl⟩
  have HR := Lib.hid hR
  rw [hR]
  obtain ⟨name, data, ops, globals, procs, labels⟩ := c
  dsimp only at *
  clear hR hc hi hol hdl hdc hoc hdm
  go_enter Tryd.func23, Tryd.ntmps23
  go_wp2
  go_loopw [9] (fun i wr => ∃ (k : Nat), k ≤ ol ∧ i = .int .i64 k ∧ Hid (R = (ops.drop k).all (OC.numQ dl procs labels)) ∧ BoxC wr w.heap.size ⟨name, data, ops, globals, procs, labels⟩ da oa ga dl dc ol oc gl gc ∧ Below w.heap.size w wr) (fun i _ => ol - (intOf i).toNat)
  case atStart => exact ⟨0, Nat.zero_le _, rfl, (show Hid _ from by show _ = _; rw [← HR.out]; simp), BoxC.new w ⟨name, data, ops, globals, procs, labels⟩ _ _ _ _ _ _ _ _ _ _, below_alloc _ _⟩
  case round =>
    clear HR
    obtain ⟨k, hk, rfl, hq, hbox, hbl⟩ := hrel
    have HBOX := Lib.hid hbox
    obtain ⟨c0, c1, c2, c3, c4, c5⟩ := hbox
    by_cases hlt : k < ol
    · have HOI := Lib.hid (HC.out.keep hbl).ops
      obtain ⟨-, b, off, rfl, h0, h1, h2⟩ := HOI.out.get hlt
      have hkl : k < ops.length := by rw [← HO.out]; exact hlt
      have hd := dropAt (d := OC.oz) hkl
      generalize ops.getD k OC.oz = x at *
      obtain ⟨op, n, m⟩ := x
      dsimp only at h0 h1 h2
      have k1 : (k : Int) < (ol : Int) := by omega
      have hwz := HBOX.out.lt
      have kz := hbl.size
      have hbb : b < wr.heap.size := World.block_lt_of_cell? _ _ h0
      have hbb1 : b < wr.heap.size + 1 := by omega
      have hbb2 : b < wr.heap.size + 1 + 1 := by omega
      have hwz1 : w.heap.size < wr.heap.size + 1 := by omega
      have hwz2 : w.heap.size < wr.heap.size + 1 + 1 := by omega
      have HIW := Lib.hid (HI.out.keep hbl (Nat.le_refl _))
      have hQ : Hid (R = ((OC.inB op 1 30 && OC.allowQ dl procs labels (OC.kindN op) n && OC.allowQ dl procs labels (OC.kindM op) m) && (ops.drop (k + 1)).all (OC.numQ dl procs labels))) := by show _ = _; rw [hq.out, hd]; rfl
      have HII : Hid (∀ W, Calls Tryd.prog 35 #[.int .i64 op] W fun e w' => e = .returned (.bool (OC.inB op 1 30)) ∧ W = w') := fun W => isInstructionP_c op W
      clear hd hq hkl
      by_cases hA : OC.inB op 1 30 = true
      case neg =>
        rw [Bool.not_eq_true] at hA
        rw [hA] at HII hQ
        go_wp2_with (go_at_call 35; refine (HII.out _).mono ?_; rintro e w1 ⟨rfl, rfl⟩)
        all_goals go_ret
        all_goals exact ⟨by rw [hQ.out]; rfl, below_then hbl (below_alloc _ _)⟩
      rw [hA] at HII hQ
      have hb30 := inB_iff.1 hA
      obtain ⟨s, t0, t1, t2⟩ := HIW.out.at (op := op) (by omega) (by omega)
      obtain ⟨j, hj⟩ : ∃ j : Nat, op = (j : Int) := ⟨op.toNat, by omega⟩
      subst hj
      rw [Int.toNat_natCast] at t0 t1 t2
      have j1 : (j : Int) < 31 := by omega
      obtain ⟨kb1, kb2⟩ := kind_bd (j : Int)
      have hg1 : instG < wr.heap.size := HIW.out.lt
      obtain ⟨kn, hkn⟩ : ∃ x, OC.kindN (j : Int) = x := ⟨_, rfl⟩
      obtain ⟨km, hkm⟩ : ∃ x, OC.kindM (j : Int) = x := ⟨_, rfl⟩
      rw [hkn] at t1 hQ kb1
      rw [hkm] at t2 hQ kb2
      have HA1 : Hid (∀ W, Calls Tryd.prog 36 #[.int .i64 kn, .int .i64 n, codeV ⟨name, data, ops, globals, procs, labels⟩ da (some ⟨b, off, none⟩) ga dl dc ol oc gl gc] W fun e w' => e = .returned (.bool (OC.allowQ (dl : Int) procs labels kn n)) ∧ Below W.heap.size W w') := fun W => HA.out kn n W kb1
      have HA2 : Hid (∀ W, Calls Tryd.prog 36 #[.int .i64 km, .int .i64 m, codeV ⟨name, data, ops, globals, procs, labels⟩ da (some ⟨b, off, none⟩) ga dl dc ol oc gl gc] W fun e w' => e = .returned (.bool (OC.allowQ (dl : Int) procs labels km m)) ∧ Below W.heap.size W w') := fun W => HA.out km m W kb2
      have hg2 : instG < wr.heap.size + 1 := by omega
      clear hkn hkm kb1 kb2 hA hb30 HA
      have tka : True := trivial
      obtain ⟨B1, hB1⟩ : ∃ x, OC.allowQ (dl : Int) procs labels kn n = x := ⟨_, rfl⟩
      obtain ⟨B2, hB2⟩ : ∃ x, OC.allowQ (dl : Int) procs labels km m = x := ⟨_, rfl⟩
      rw [hB1] at HA1 hQ
      rw [hB2] at HA2 hQ
      clear hB1 hB2
      cases B1 with
      | false =>
        go_wp2_with (first
          | (go_at_call 35; refine (HII.out _).mono ?_; rintro e w1 ⟨rfl, rfl⟩)
          | (go_at_call 36; refine (HA1.out _).mono ?_; rintro e w2 ⟨rfl, hb2⟩; obtain ⟨hcc2, hff2⟩ := bcell hb2))
        all_goals go_ret
        all_goals exact ⟨by rw [hQ.out]; rfl, below_then (below_then (below_then hbl (below_alloc _ _)) (below_alloc _ _)) hb2⟩
      | true =>
        cases B2 with
        | false =>
          go_wp2_with (first
            | (go_at_call 35; refine (HII.out _).mono ?_; rintro e w1 ⟨rfl, rfl⟩)
            | (have _t := tka; clear _t tka; have tkb : True := trivial; go_at_call 36; refine (HA1.out _).mono ?_; rintro e w2 ⟨rfl, hb2⟩; obtain ⟨hcc2, hff2⟩ := bcell hb2)
            | (have _t := tkb; clear _t tkb; go_at_call 36; refine (HA2.out _).mono ?_; rintro e w3 ⟨rfl, hb3⟩; obtain ⟨hcc3, hff3⟩ := bcell hb3))
          all_goals go_ret
          all_goals exact ⟨by rw [hQ.out]; rfl, below_then (below_then (below_then (below_then hbl (below_alloc _ _)) (below_alloc _ _)) hb2) hb3⟩
        | true =>
          have hnext : Hid (R = (ops.drop (k + 1)).all (OC.numQ dl procs labels)) := by show _ = _; rw [hQ.out]; simp
          go_wp2_with (first
            | (go_at_call 35; refine (HII.out _).mono ?_; rintro e w1 ⟨rfl, rfl⟩)
            | (have _t := tka; clear _t tka; have tkb : True := trivial; go_at_call 36; refine (HA1.out _).mono ?_; rintro e w2 ⟨rfl, hb2⟩; obtain ⟨hcc2, hff2⟩ := bcell hb2)
            | (have _t := tkb; clear _t tkb; go_at_call 36; refine (HA2.out _).mono ?_; rintro e w3 ⟨rfl, hb3⟩; obtain ⟨hcc3, hff3⟩ := bcell hb3))
          all_goals go_roundw
          all_goals first | (case rel => exact ⟨k + 1, by omega, by go_num, hnext, HBOX.out.keep (below_then (below_then (below_then (below_alloc _ _) (below_alloc _ _)) hb2) hb3) hwz, below_then (below_then (below_then (below_then hbl (below_alloc _ _)) (below_alloc _ _)) hb2) hb3⟩) | (simp [intOf]; omega)
    · obtain rfl : ol = k := by omega
      have hfin : Hid (R = true) := by show _ = _; rw [hq.out, List.drop_eq_nil_of_le (by rw [← HO.out]; exact Nat.le_refl _)]; rfl
      clear hq
      go_wp2
      all_goals go_ret
      all_goals exact ⟨by rw [hfin.out]; rfl, hbl⟩
end Go.Proofs.YtfnkafnjpldaoaaDoor
namespace Go.Proofs.YtfnkafnjpldaoaaDoor
open Go.RowKit
set_option linter.unusedVariables false
set_option linter.unusedSimpArgs false
set_option maxRecDepth 100000 in
set_option maxHeartbeats 4000000 in
theorem haveCasesP_c (ops : List OC.Op) (a : Option Addr) (len cap : Nat) (w : World) (hr : RdO w (.slice a len cap) ops) (hn : ∀ o ∈ ops, -2147483648 ≤ o.m ∧ o.m ≤ 2147483647) :
    Calls Tryd.prog 24 #[.slice a len cap] w fun e w' => e = .returned (.bool (OC.casQ 0 ops)) ∧ Below w.heap.size w w' := by
  obtain ⟨hl, hc, hm⟩ := hr.len
  have HR := Lib.hid hr
  have HL := Lib.hid hl
  have HN := Lib.hid hn
  obtain ⟨C, hC⟩ : ∃ C, OC.casQ 0 ops = C := ⟨_, rfl⟩
  have HC := Lib.hid hC
  rw [hC]
  clear hr hl hC hc hn
  go_enter Tryd.func24, Tryd.ntmps24
  go_wp2
  go_loopw [3, 8] (fun s i wr => ∃ (k : Nat) (q : Int), k ≤ len ∧ i = .int .i64 k ∧ s = .int .i64 q ∧ -2147483648 ≤ q ∧ q ≤ 2147483647 ∧ Hid (C = OC.casQ q (ops.drop k)) ∧ Below w.heap.size w wr) (fun _ i _ => len - (intOf i).toNat)
  case atStart => exact ⟨0, 0, Nat.zero_le _, rfl, rfl, by omega, by omega, (show Hid _ from by show _ = _; rw [← HC.out]; simp), Below.refl _ _⟩
  case round =>
    clear HC
    obtain ⟨k, q, hk, rfl, rfl, hq1, hq2, hq, hbl⟩ := hrel
    by_cases hlt : k < len
    · obtain ⟨-, b, off, rfl, h0, h1, h2⟩ := (show RdO wr (.slice a len cap) ops from HR.out.keep fun _ _ _ h => h.keep hbl).get hlt
      have hkl : k < ops.length := by rw [← HL.out]; exact hlt
      have hd := dropAt (d := OC.oz) hkl
      have hnn := HN.out _ (getD_map_range ops OC.oz hkl)
      generalize ops.getD k OC.oz = x at *
      obtain ⟨op, n, m⟩ := x
      dsimp only at h0 h1 h2 hnn
      obtain ⟨n1, n2⟩ := hnn
      have k1 : (k : Int) < (len : Int) := by omega
      have hbb : b < wr.heap.size := World.block_lt_of_cell? _ _ h0
      have hbb1 : b < wr.heap.size + 1 := by omega
      have hQ : C = if decide (op = 30) ≠ decide (0 < q) then false else OC.casQ (if op = 30 then q - 1 else if op = 29 then m else q) (ops.drop (k + 1)) := by rw [hq.out, hd]; rfl
      clear hd hq hkl
      by_cases h30 : op = 30
      · subst h30
        by_cases q0 : 0 < q
        · have hnext : Hid (C = OC.casQ (q - 1) (ops.drop (k + 1))) := by show _ = _; rw [hQ, if_neg (by simp [q0]), if_pos rfl]
          clear hQ
          go_wp2
          all_goals go_roundw
          all_goals first | (case rel => exact ⟨k + 1, q - 1, by omega, by go_num, by go_num, by omega, by omega, hnext, below_then hbl (below_alloc _ _)⟩) | (simp [intOf]; omega)
        · have hfail : Hid (C = false) := by show _ = _; rw [hQ, if_pos (by simp [q0])]
          clear hQ
          go_wp2
          all_goals go_ret
          all_goals exact ⟨by rw [hfail.out]; rfl, below_then hbl (below_alloc _ _)⟩
      · have e30 : (op == 30) = false := by simpa using h30
        by_cases q0 : 0 < q
        · have hfail : Hid (C = false) := by show _ = _; rw [hQ, if_pos (by simp [q0, h30])]
          clear hQ h30
          go_wp2
          all_goals go_ret
          all_goals exact ⟨by rw [hfail.out]; rfl, below_then hbl (below_alloc _ _)⟩
        · by_cases h29 : op = 29
          · have hnext : Hid (C = OC.casQ m (ops.drop (k + 1))) := by show _ = _; rw [hQ, if_neg (by simp [q0, h30]), if_neg h30, if_pos h29]
            subst h29
            clear hQ h30
            go_wp2
            all_goals go_roundw
            all_goals first | (case rel => exact ⟨k + 1, m, by omega, by go_num, by first | rfl | go_num, by omega, by omega, hnext, below_then hbl (below_alloc _ _)⟩) | (simp [intOf]; omega)
          · have hnext : Hid (C = OC.casQ q (ops.drop (k + 1))) := by show _ = _; rw [hQ, if_neg (by simp [q0, h30]), if_neg h30, if_neg h29]
            have e29 : (op == 29) = false := by simpa using h29
            clear hQ h30 h29
            go_wp2
            all_goals go_roundw
            all_goals first | (case rel => exact ⟨k + 1, q, by omega, by go_num, by first | rfl | go_num, by omega, by omega, hnext, below_then hbl (below_alloc _ _)⟩) | (simp [intOf]; omega)
    · obtain rfl : len = k := by omega
      have hfin : Hid (C = decide (q = 0)) := by show _ = _; rw [hq.out, List.drop_eq_nil_of_le (by rw [← HL.out]; exact Nat.le_refl _)]; rfl
      clear hq
      by_cases q0 : q = 0
      · subst q0
        go_wp2
        all_goals go_ret
        all_goals exact ⟨by rw [hfin.out]; rfl, hbl⟩
      · have e1 : (q == 0) = false := by simpa using q0
        go_wp2
        all_goals go_ret
        all_goals exact ⟨by rw [hfin.out]; simp [q0], hbl⟩
set_option maxRecDepth 100000 in
set_option maxHeartbeats 8000000 in
theorem haveProceduresP_c (c : OC.Code) (da oa ga : Option Addr) (dl dc ol oc gl gc : Nat) (w : World) (hc : CodeIn w c da oa ga dl dc ol oc gl gc) (hm : ol ≤ 40100) :
    Calls Tryd.prog 25 #[codeV c da oa ga dl dc ol oc gl gc] w fun e w' => e = .returned (.bool (OC.proQ c.procs 0 c.ops)) ∧ Below w.heap.size w w' := by
  obtain ⟨hol, hoc, hom⟩ := hc.ops.len
  have HC := Lib.hid hc
  have HO := Lib.hid hol
  obtain ⟨R, hR⟩ : ∃ x, OC.proQ c.procs 0 c.ops = x := ⟨_, rfl⟩
  have HR := Lib.hid hR
  rw [hR]
  have HGO : Hid (∀ W k, RdO W (.slice oa ol oc) c.ops → k < c.ops.length → Calls Tryd.prog 33 #[.slice oa ol oc, .int .i64 ((k : Nat) : Int)] W fun e w' => e = .returned (.bool (OC.goQ (c.ops.getD k OC.oz) (c.ops.drop (k + 1)))) ∧ Below W.heap.size W w') := fun W k hW hk => goesOnP_c c.ops oa ol oc W k hW hk
  obtain ⟨name, data, ops, globals, procs, labels⟩ := c
  dsimp only at *
  clear hR hc hol hoc
  go_enter Tryd.func25, Tryd.ntmps25
  go_wp2
  go_loopw [3, 10] (fun s i wr => ∃ (k : Nat) (p : Int), k ≤ ol ∧ i = .int .i64 k ∧ s = .int .i64 p ∧ 0 ≤ p ∧ p ≤ (k : Int) ∧ Hid (R = OC.proQ procs p (ops.drop k)) ∧ BoxC wr w.heap.size ⟨name, data, ops, globals, procs, labels⟩ da oa ga dl dc ol oc gl gc ∧ Below w.heap.size w wr) (fun _ i _ => ol - (intOf i).toNat)
  case atStart => exact ⟨0, 0, Nat.zero_le _, rfl, rfl, by omega, by omega, (show Hid _ from by show _ = _; rw [← HR.out]; simp), BoxC.new w ⟨name, data, ops, globals, procs, labels⟩ _ _ _ _ _ _ _ _ _ _, below_alloc _ _⟩
  case round =>
    clear HR
    obtain ⟨k, p, hk, rfl, rfl, hp1, hp2, hq, hbox, hbl⟩ := hrel
    have HBOX := Lib.hid hbox
    obtain ⟨c0, c1, c2, c3, c4, c5⟩ := hbox
    by_cases hlt : k < ol
    · have HOI := Lib.hid (HC.out.keep hbl).ops
      have hkl : k < ops.length := by rw [← HO.out]; exact hlt
      obtain ⟨GB, hGB⟩ : ∃ x, OC.goQ (ops.getD k OC.oz) (ops.drop (k + 1)) = x := ⟨_, rfl⟩
      have HG : Hid (∀ W, RdO W (.slice oa ol oc) ops → Calls Tryd.prog 33 #[.slice oa ol oc, .int .i64 (k : Int)] W fun e w' => e = .returned (.bool GB) ∧ Below W.heap.size W w') := fun W hW => by have h := HGO.out W k hW hkl; rwa [hGB] at h
      have hd := dropAt (d := OC.oz) hkl
      have hQ : R = OC.proQ procs p (ops.getD k OC.oz :: ops.drop (k + 1)) := by rw [hq.out, hd]
      rw [OC.proQ, hGB] at hQ
      obtain ⟨-, b, off, rfl, h0, h1, h2⟩ := HOI.out.get hlt
      clear hd hGB hq
      generalize ops.getD k OC.oz = x at *
      obtain ⟨op, n, m⟩ := x
      dsimp only at h0 h1 h2 hQ
      have k1 : (k : Int) < (ol : Int) := by omega
      have hwz := HBOX.out.lt
      have hbb : b < wr.heap.size := World.block_lt_of_cell? _ _ h0
      have hbb1 : b < wr.heap.size + 1 := by omega
      have hwz1 : w.heap.size < wr.heap.size + 1 := by omega
      by_cases h24 : op = 24
      · subst h24
        rw [if_pos rfl] at hQ
        by_cases hnp : n = p + 1
        case neg =>
          have e1 : (n != p + 1) = true := by simpa using hnp
          have e2 : (p + 1 == 0) = false := by simp; omega
          have hfail : Hid (R = false) := by show _ = _; rw [hQ, if_pos (.inr ⟨rfl, hnp⟩)]
          clear hQ HG
          go_wp2
          all_goals go_ret
          all_goals exact ⟨by rw [hfail.out]; rfl, below_then hbl (below_alloc _ _)⟩
        subst hnp
        have hQ2 : R = if OC.nx (ops.drop (k + 1)) = 24 ∧ GB = true then false else OC.proQ procs (p + 1) (ops.drop (k + 1)) := by rw [hQ, if_neg (fun hx => hx.elim (fun h => by omega) (fun h => h.2 rfl))]
        have e2 : (p + 1 == 0) = false := by simp; omega
        clear hQ
        by_cases hend : k + 1 < ol
        · obtain ⟨-, b', off', e', g0, -, -⟩ := HOI.out.get hend
          simp only [Option.some.injEq, Addr.mk.injEq] at e'
          obtain ⟨rfl, rfl, _⟩ := e'
          have hY := nxd (l := ops) (k := k + 1) (by rw [← HO.out]; exact hend)
          generalize ops.getD (k + 1) OC.oz = y at *
          obtain ⟨yop, yn, ym⟩ := y
          dsimp only at g0 hY
          have k2 : ((k : Int) + 1 == (ol : Int)) = false := by simp; omega
          have k3 : (k : Int) + 1 < (ol : Int) := by omega
          by_cases hy : yop = 24
          · cases GB with
            | true =>
              have hfail : Hid (R = false) := by show _ = _; rw [hQ2, hY, if_pos ⟨hy, rfl⟩]
              subst hy
              clear hQ2 hY
              go_wp2_with (go_at_call 33; refine (HG.out _ (HC.out.keep (below_then hbl (below_alloc _ _))).ops).mono ?_; rintro e w1 ⟨rfl, hb1⟩; obtain ⟨hcc1, hff1⟩ := bcell hb1)
              all_goals go_ret
              all_goals exact ⟨by rw [hfail.out]; rfl, below_then (below_then hbl (below_alloc _ _)) hb1⟩
            | false =>
              have hnext : Hid (R = OC.proQ procs (p + 1) (ops.drop (k + 1))) := by show _ = _; rw [hQ2, if_neg (by simp)]
              subst hy
              clear hQ2 hY
              go_wp2_with (go_at_call 33; refine (HG.out _ (HC.out.keep (below_then hbl (below_alloc _ _))).ops).mono ?_; rintro e w1 ⟨rfl, hb1⟩; obtain ⟨hcc1, hff1⟩ := bcell hb1)
              all_goals go_roundw
              all_goals first | (case rel => exact ⟨k + 1, p + 1, by omega, by go_num, by first | rfl | go_num, by omega, by omega, hnext, HBOX.out.keep (below_then (below_alloc wr _) hb1) hwz, below_then (below_then hbl (below_alloc _ _)) hb1⟩) | (simp [intOf]; omega)
          · have hnext : Hid (R = OC.proQ procs (p + 1) (ops.drop (k + 1))) := by show _ = _; rw [hQ2, hY, if_neg (fun h => hy h.1)]
            have ey : (yop == 24) = false := by simpa using hy
            clear hQ2 hY hy
            go_wp2
            all_goals go_roundw
            all_goals first | (case rel => exact ⟨k + 1, p + 1, by omega, by go_num, by first | rfl | go_num, by omega, by omega, hnext, HBOX.out.keep (below_alloc wr _) hwz, below_then hbl (below_alloc _ _)⟩) | (simp [intOf]; omega)
        · have hY := nxe (l := ops) (k := k + 1) (by rw [← HO.out]; omega)
          have k2 : ((k : Int) + 1 == (ol : Int)) = true := by simp; omega
          have k3 : (k : Int) + 1 = (ol : Int) := by omega
          cases GB with
          | true =>
            have hfail : Hid (R = false) := by show _ = _; rw [hQ2, hY, if_pos ⟨rfl, rfl⟩]
            clear hQ2 hY
            go_wp2_with (go_at_call 33; refine (HG.out _ (HC.out.keep (below_then hbl (below_alloc _ _))).ops).mono ?_; rintro e w1 ⟨rfl, hb1⟩; obtain ⟨hcc1, hff1⟩ := bcell hb1)
            all_goals go_ret
            all_goals exact ⟨by rw [hfail.out]; rfl, below_then (below_then hbl (below_alloc _ _)) hb1⟩
          | false =>
            have hnext : Hid (R = OC.proQ procs (p + 1) (ops.drop (k + 1))) := by show _ = _; rw [hQ2, if_neg (by simp)]
            clear hQ2 hY
            go_wp2_with (go_at_call 33; refine (HG.out _ (HC.out.keep (below_then hbl (below_alloc _ _))).ops).mono ?_; rintro e w1 ⟨rfl, hb1⟩; obtain ⟨hcc1, hff1⟩ := bcell hb1)
            all_goals go_roundw
            all_goals first | (case rel => exact ⟨k + 1, p + 1, by omega, by go_num, by first | rfl | go_num, by omega, by omega, hnext, HBOX.out.keep (below_then (below_alloc wr _) hb1) hwz, below_then (below_then hbl (below_alloc _ _)) hb1⟩) | (simp [intOf]; omega)
      · have e24 : (op == 24) = false := by simpa using h24
        rw [if_neg h24] at hQ
        by_cases hp0 : p = 0
        · have hfail : Hid (R = false) := by show _ = _; rw [hQ, if_pos (.inl hp0)]
          subst hp0
          clear hQ HG h24
          go_wp2
          all_goals go_ret
          all_goals exact ⟨by rw [hfail.out]; rfl, below_then hbl (below_alloc _ _)⟩
        have hQ2 : R = if OC.nx (ops.drop (k + 1)) = 24 ∧ GB = true then false else OC.proQ procs p (ops.drop (k + 1)) := by rw [hQ, if_neg (fun hx => hx.elim (fun h => hp0 h) (fun h => h24 h.1))]
        have e2 : (p == 0) = false := by simpa using hp0
        clear hQ h24
        by_cases hend : k + 1 < ol
        · obtain ⟨-, b', off', e', g0, -, -⟩ := HOI.out.get hend
          simp only [Option.some.injEq, Addr.mk.injEq] at e'
          obtain ⟨rfl, rfl, _⟩ := e'
          have hY := nxd (l := ops) (k := k + 1) (by rw [← HO.out]; exact hend)
          generalize ops.getD (k + 1) OC.oz = y at *
          obtain ⟨yop, yn, ym⟩ := y
          dsimp only at g0 hY
          have k2 : ((k : Int) + 1 == (ol : Int)) = false := by simp; omega
          have k3 : (k : Int) + 1 < (ol : Int) := by omega
          by_cases hy : yop = 24
          · cases GB with
            | true =>
              have hfail : Hid (R = false) := by show _ = _; rw [hQ2, hY, if_pos ⟨hy, rfl⟩]
              subst hy
              clear hQ2 hY
              go_wp2_with (go_at_call 33; refine (HG.out _ (HC.out.keep (below_then hbl (below_alloc _ _))).ops).mono ?_; rintro e w1 ⟨rfl, hb1⟩; obtain ⟨hcc1, hff1⟩ := bcell hb1)
              all_goals go_ret
              all_goals exact ⟨by rw [hfail.out]; rfl, below_then (below_then hbl (below_alloc _ _)) hb1⟩
            | false =>
              have hnext : Hid (R = OC.proQ procs (p) (ops.drop (k + 1))) := by show _ = _; rw [hQ2, if_neg (by simp)]
              subst hy
              clear hQ2 hY
              go_wp2_with (go_at_call 33; refine (HG.out _ (HC.out.keep (below_then hbl (below_alloc _ _))).ops).mono ?_; rintro e w1 ⟨rfl, hb1⟩; obtain ⟨hcc1, hff1⟩ := bcell hb1)
              all_goals go_roundw
              all_goals first | (case rel => exact ⟨k + 1, p, by omega, by go_num, by first | rfl | go_num, by omega, by omega, hnext, HBOX.out.keep (below_then (below_alloc wr _) hb1) hwz, below_then (below_then hbl (below_alloc _ _)) hb1⟩) | (simp [intOf]; omega)
          · have hnext : Hid (R = OC.proQ procs (p) (ops.drop (k + 1))) := by show _ = _; rw [hQ2, hY, if_neg (fun h => hy h.1)]
            have ey : (yop == 24) = false := by simpa using hy
            clear hQ2 hY hy
            go_wp2
            all_goals go_roundw
            all_goals first | (case rel => exact ⟨k + 1, p, by omega, by go_num, by first | rfl | go_num, by omega, by omega, hnext, HBOX.out.keep (below_alloc wr _) hwz, below_then hbl (below_alloc _ _)⟩) | (simp [intOf]; omega)
        · have hY := nxe (l := ops) (k := k + 1) (by rw [← HO.out]; omega)
          have k2 : ((k : Int) + 1 == (ol : Int)) = true := by simp; omega
          have k3 : (k : Int) + 1 = (ol : Int) := by omega
          cases GB with
          | true =>
            have hfail : Hid (R = false) := by show _ = _; rw [hQ2, hY, if_pos ⟨rfl, rfl⟩]
            clear hQ2 hY
            go_wp2_with (go_at_call 33; refine (HG.out _ (HC.out.keep (below_then hbl (below_alloc _ _))).ops).mono ?_; rintro e w1 ⟨rfl, hb1⟩; obtain ⟨hcc1, hff1⟩ := bcell hb1)
            all_goals go_ret
            all_goals exact ⟨by rw [hfail.out]; rfl, below_then (below_then hbl (below_alloc _ _)) hb1⟩
          | false =>
            have hnext : Hid (R = OC.proQ procs (p) (ops.drop (k + 1))) := by show _ = _; rw [hQ2, if_neg (by simp)]
            clear hQ2 hY
            go_wp2_with (go_at_call 33; refine (HG.out _ (HC.out.keep (below_then hbl (below_alloc _ _))).ops).mono ?_; rintro e w1 ⟨rfl, hb1⟩; obtain ⟨hcc1, hff1⟩ := bcell hb1)
            all_goals go_roundw
            all_goals first | (case rel => exact ⟨k + 1, p, by omega, by go_num, by first | rfl | go_num, by omega, by omega, hnext, HBOX.out.keep (below_then (below_alloc wr _) hb1) hwz, below_then (below_then hbl (below_alloc _ _)) hb1⟩) | (simp [intOf]; omega)
    · obtain rfl : ol = k := by omega
      have hfin : Hid (R = decide (p = procs)) := by show _ = _; rw [hq.out, List.drop_eq_nil_of_le (by rw [← HO.out]; exact Nat.le_refl _)]; rfl
      clear hq
      by_cases q0 : p = procs
      · subst q0
        go_wp2
        all_goals go_ret
        all_goals exact ⟨by rw [hfin.out]; simp, hbl⟩
      · have e1 : (p == procs) = false := by simpa using q0
        go_wp2
        all_goals go_ret
        all_goals exact ⟨by rw [hfin.out]; simp [q0], hbl⟩
end Go.Proofs.YtfnkafnjpldaoaaDoor
