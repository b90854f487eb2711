/- Whether procedures, switches, cases and labels stand as said, in the document's words. -/
import Derived.Test.YthlakfgpmggceaaDoorOcTm
namespace Go.Proofs.YthlakfgpmggceaaDoor
open Go.RowKit
set_option linter.unusedVariables false
set_option linter.unusedSimpArgs false
theorem inB_iff {v a b : Int} : OC.inB v a b = true ↔ a ≤ v ∧ v ≤ b := by simp [OC.inB]
theorem numB_bd {nd procs labels : Int} {o : OC.Op} (h : OC.numB nd procs labels o = true) : 1 ≤ o.op ∧ o.op ≤ 30 ∧ -2147483648 ≤ o.n ∧ o.n ≤ 2147483647 ∧ -2147483648 ≤ o.m ∧ o.m ≤ 2147483647 := by
  unfold OC.numB at h
  simp only [Bool.and_eq_true] at h
  obtain ⟨⟨⟨⟨h1, h2⟩, h3⟩, _⟩, _⟩ := h
  have a := inB_iff.1 h1
  have b := inB_iff.1 h2
  have c := inB_iff.1 h3
  exact ⟨a.1, a.2, b.1, b.2, c.1, c.2⟩
/-- the numbers of all instructions are as said -/
def NumOk (c : OC.Code) : Prop := ∀ o ∈ c.ops, OC.numB (c.data.length : Int) c.procs c.labels o = true
theorem orderOk_none {c : OC.Code} {f : Bool} {p l q : Int} {r : List OC.Op} (h : OC.orderB true 0 0 0 c.ops = OC.orderB f p l q r) (h2 : OC.orderB f p l q r = none) : OC.orderOk c = false := by
  unfold OC.orderOk; rw [h, h2]; simp
theorem nx_drop {l : List OC.Op} {k : Nat} (h : k < l.length) : OC.nx (l.drop k) = (l.getD k OC.oz).op := by
  rw [dropAt (d := OC.oz) h]; rfl
theorem nx_end {l : List OC.Op} {k : Nat} (h : l.length ≤ k) : OC.nx (l.drop k) = 24 := by
  rw [List.drop_eq_nil_of_le h]; rfl
set_option maxRecDepth 100000 in
set_option maxHeartbeats 8000000 in
theorem orderR_c (c : OC.Code) (da oa ga : Option Addr) (dl dc ol oc gl gc : Nat) (w : World) (hc : CodeIn w c da oa ga dl dc ol oc gl gc) (hs : Small c) (hn : NumOk c) :
    Calls Tryd.prog 45 #[codeV c da oa ga dl dc ol oc gl gc] w fun e w' => e = .returned (.bool (OC.orderOk c)) ∧ Below w.heap.size w w' := by
  obtain ⟨hol, hoc, _⟩ := hc.ops.len
  have HC := Lib.hid hc
  have HO := Lib.hid hol
  have hol2 := hs.ops
  rw [← hol] at hol2
  have HN : Hid (∀ o ∈ c.ops, _) := fun o ho => numB_bd (hn o ho)
  obtain ⟨name, data, ops, globals, procs, labels⟩ := c
  dsimp only at *
  clear hol hc hs hn
  go_enter Tryd.func45, Tryd.ntmps45
  go_wp2
  go_loopw [3, 4, 5, 6] (fun vp vl vq i wr => ∃ (k : Nat) (p l q : Int), k ≤ ol ∧ i = .int .i64 k ∧ vp = .int .i64 p ∧ vl = .int .i64 l ∧ vq = .int .i64 q ∧ 0 ≤ p ∧ p ≤ (k : Int) ∧ -2147483648 ≤ q ∧ q ≤ 2147483647 ∧ Hid (OC.orderB true 0 0 0 ops = OC.orderB (decide (k = 0)) p l q (ops.drop k)) ∧ BoxC wr w.heap.size ⟨name, data, ops, globals, procs, labels⟩ da oa ga dl dc ol oc gl gc ∧ Below w.heap.size w wr) (fun _ _ _ i _ => ol - (intOf i).toNat)
  case atStart => exact ⟨0, 0, 0, 0, Nat.zero_le _, rfl, rfl, rfl, rfl, by omega, by omega, by omega, by omega, (rfl : OC.orderB true 0 0 0 ops = _), BoxC.new w ⟨name, data, ops, globals, procs, labels⟩ _ _ _ _ _ _ _ _ _ _, below_alloc _ _⟩
  case round =>
    obtain ⟨k, p, l, q, hk, rfl, rfl, rfl, rfl, hp1, hp2, hq1, hq2, hq, hbox, hbl⟩ := hrel
    have HBOX := Lib.hid hbox
    obtain ⟨c0, c1, c2, c3, c4, c5⟩ := hbox
    by_cases hlt : k < ol
    · have HOI := Lib.hid (HC.out.keep hbl).ops
      obtain ⟨hx1, b, off, rfl, h0, h1, h2⟩ := HOI.out.get hlt
      clear hx1
      have hkl : k < ops.length := by rw [← HO.out]; exact hlt
      have hd := dropAt (d := OC.oz) hkl
      have hbd := HN.out _ (getD_map_range ops OC.oz hkl)
      generalize ops.getD k OC.oz = x at *
      obtain ⟨op, n, m⟩ := x
      dsimp only at h0 h1 h2 hbd
      obtain ⟨b1, b2, b3, b4, b5, b6⟩ := hbd
      have k1 : (k : Int) < (ol : Int) := by omega
      have hwz := HBOX.out.lt
      have kz := hbl.size
      have hbb : b < wr.heap.size := World.block_lt_of_cell? _ _ h0
      have hbb1 : b < wr.heap.size + 1 := by omega
      have hwz1 : w.heap.size < wr.heap.size + 1 := by omega
      by_cases h30 : op = 30
      · subst h30
        by_cases hq0 : 0 < q
        · by_cases hk0 : k = 0
          · skip
            have e0 : ((k : Int) == 0) = true := by simp [hk0]
            have hfail : Hid (OC.orderOk ⟨name, data, ops, globals, procs, labels⟩ = false) := orderOk_none (c := ⟨name, data, ops, globals, procs, labels⟩) (hq.out.trans (by rw [hd])) (by rw [OC.orderB]; simp [hq0, hk0, OC.goesOn])
            have HG : Hid (∀ W, Calls Tryd.prog 87 #[opVal ⟨30, n, m⟩] W fun e w' => e = .returned (.bool false) ∧ Below W.heap.size W w') := fun W => goesonR_c _ W
            clear hd hq hk0
            go_wp2_with (go_at_call 87; refine (HG.out _).mono ?_; rintro e w1 ⟨rfl, hb1⟩; obtain ⟨hcc, hff⟩ := bcell hb1)
            all_goals go_ret
            all_goals exact ⟨by rw [hfail.out]; rfl, (below_then (below_then hbl (below_alloc _ _)) hb1)⟩
          · skip
            have e0 : ((k : Int) == 0) = false := by simp; omega
            have hnext : Hid (OC.orderB true 0 0 0 ops = OC.orderB (decide (k + 1 = 0)) (p) (l) (q - 1) (ops.drop (k + 1))) := by
              show _ = _
              rw [hq.out, hd, OC.orderB]
              simp [hq0, hk0, OC.goesOn]
            have HG : Hid (∀ W, Calls Tryd.prog 87 #[opVal ⟨30, n, m⟩] W fun e w' => e = .returned (.bool false) ∧ Below W.heap.size W w') := fun W => goesonR_c _ W
            clear hd hq hk0
            go_wp2_with (go_at_call 87; refine (HG.out _).mono ?_; rintro e w1 ⟨rfl, hb1⟩; obtain ⟨hcc, hff⟩ := bcell hb1)
            all_goals go_roundw
            all_goals first | (case rel => exact ⟨k + 1, p, l, q - 1, by omega, by go_num, by first | rfl | go_num, by first | rfl | go_num, by first | rfl | go_num, by omega, by omega, by omega, by omega, hnext, ((HBOX.out.keep (below_alloc wr _) hwz).keep hb1 (by simp; omega)), (below_then (below_then hbl (below_alloc _ _)) hb1)⟩) | (simp [intOf]; omega)
        · skip
          have hfail : Hid (OC.orderOk ⟨name, data, ops, globals, procs, labels⟩ = false) := orderOk_none (c := ⟨name, data, ops, globals, procs, labels⟩) (hq.out.trans (by rw [hd])) (by rw [OC.orderB]; simp [hq0])
          clear hd hq
          go_wp2
          all_goals go_ret
          all_goals exact ⟨by rw [hfail.out]; rfl, (below_then hbl (below_alloc _ _))⟩
      by_cases hq0 : 0 < q
      · skip
        have e30 : (op == 30) = false := by simpa using h30
        have hfail : Hid (OC.orderOk ⟨name, data, ops, globals, procs, labels⟩ = false) := orderOk_none (c := ⟨name, data, ops, globals, procs, labels⟩) (hq.out.trans (by rw [hd])) (by rw [OC.orderB]; simp [hq0, h30])
        clear hd hq h30
        go_wp2
        all_goals go_ret
        all_goals exact ⟨by rw [hfail.out]; rfl, (below_then hbl (below_alloc _ _))⟩
      have e30 : (op == 30) = false := by simpa using h30
      by_cases h24 : op = 24
      · subst h24
        clear h30 e30
        by_cases hnp : n = p + 1
        case neg =>
          have e1 : (n != p + 1) = true := by simpa using hnp
          have e2 : (n == p + 1) = false := by simpa using hnp
          have hfail : Hid (OC.orderOk ⟨name, data, ops, globals, procs, labels⟩ = false) := orderOk_none (c := ⟨name, data, ops, globals, procs, labels⟩) (hq.out.trans (by rw [hd])) (by rw [OC.orderB]; simp [hq0, hnp])
          clear hd hq hnp
          go_wp2
          all_goals go_ret
          all_goals exact ⟨by rw [hfail.out]; rfl, (below_then hbl (below_alloc _ _))⟩
        subst hnp
        by_cases hend : k + 1 < ol
        · skip
          obtain ⟨hx1, b', off', e', g0, g1, g2⟩ := HOI.out.get hend
          clear hx1
          simp only [Option.some.injEq, Addr.mk.injEq] at e'
          obtain ⟨rfl, rfl, _⟩ := e'
          have hY := nx_drop (l := ops) (k := k + 1) (by rw [← HO.out]; exact hend)
          generalize ops.getD (k + 1) OC.oz = y at *
          obtain ⟨yop, yn, ym⟩ := y
          dsimp only at g0 hY
          have k2 : decide ((ol : Int) ≤ (k : Int) + 1) = false := by rw [decide_eq_false_iff_not]; omega
          have k3 : (k : Int) + 1 < (ol : Int) := by omega
          by_cases hy24 : yop = 24
          · subst hy24
            have hfail : Hid (OC.orderOk ⟨name, data, ops, globals, procs, labels⟩ = false) := orderOk_none (c := ⟨name, data, ops, globals, procs, labels⟩) (hq.out.trans (by rw [hd])) (by rw [OC.orderB]; simp [hq0, hY, OC.goesOn])
            have HG : Hid (∀ W, Calls Tryd.prog 87 #[opVal ⟨24, p + 1, m⟩] W fun e w' => e = .returned (.bool true) ∧ Below W.heap.size W w') := fun W => goesonR_c _ W
            clear hd hq hY
            go_wp2_with (go_at_call 87; refine (HG.out _).mono ?_; rintro e w1 ⟨rfl, hb1⟩; obtain ⟨hcc, hff⟩ := bcell hb1)
            all_goals go_ret
            all_goals exact ⟨by rw [hfail.out]; rfl, (below_then (below_then hbl (below_alloc _ _)) hb1)⟩
          · skip
            have e1 : (yop == 24) = false := by simpa using hy24
            have hnext : Hid (OC.orderB true 0 0 0 ops = OC.orderB (decide (k + 1 = 0)) (p + 1) (l) (q) (ops.drop (k + 1))) := by
              show _ = _
              rw [hq.out, hd, OC.orderB]
              simp [hq0, hY, hy24, OC.goesOn]
            have HG : Hid (∀ W, Calls Tryd.prog 87 #[opVal ⟨24, p + 1, m⟩] W fun e w' => e = .returned (.bool true) ∧ Below W.heap.size W w') := fun W => goesonR_c _ W
            clear hd hq hY hy24
            go_wp2_with (go_at_call 87; refine (HG.out _).mono ?_; rintro e w1 ⟨rfl, hb1⟩; obtain ⟨hcc, hff⟩ := bcell hb1)
            all_goals go_roundw
            all_goals first | (case rel => exact ⟨k + 1, p + 1, l, q, by omega, by go_num, by first | rfl | go_num, by first | rfl | go_num, by first | rfl | go_num, by omega, by omega, by omega, by omega, hnext, ((HBOX.out.keep (below_alloc wr _) hwz).keep hb1 (by simp; omega)), (below_then (below_then hbl (below_alloc _ _)) hb1)⟩) | (simp [intOf]; omega)
        · skip
          have hY : OC.nx (ops.drop (k + 1)) = 24 := nx_end (by rw [← HO.out]; omega)
          have k2 : decide ((ol : Int) ≤ (k : Int) + 1) = true := by rw [decide_eq_true_iff]; omega
          have hfail : Hid (OC.orderOk ⟨name, data, ops, globals, procs, labels⟩ = false) := orderOk_none (c := ⟨name, data, ops, globals, procs, labels⟩) (hq.out.trans (by rw [hd])) (by rw [OC.orderB]; simp [hq0, hY, OC.goesOn])
          have HG : Hid (∀ W, Calls Tryd.prog 87 #[opVal ⟨24, p + 1, m⟩] W fun e w' => e = .returned (.bool true) ∧ Below W.heap.size W w') := fun W => goesonR_c _ W
          clear hd hq hY hend
          go_wp2_with (go_at_call 87; refine (HG.out _).mono ?_; rintro e w1 ⟨rfl, hb1⟩; obtain ⟨hcc, hff⟩ := bcell hb1)
          all_goals go_ret
          all_goals exact ⟨by rw [hfail.out]; rfl, (below_then (below_then hbl (below_alloc _ _)) hb1)⟩
      have e24 : (op == 24) = false := by simpa using h24
      have n24 : (op != 24) = true := by simpa using h24
      by_cases h29 : op = 29
      · subst h29
        clear h30 e30 h24 e24 n24
        by_cases hk0 : k = 0
        · skip
          have e0 : ((k : Int) == 0) = true := by simp [hk0]
          have hfail : Hid (OC.orderOk ⟨name, data, ops, globals, procs, labels⟩ = false) := orderOk_none (c := ⟨name, data, ops, globals, procs, labels⟩) (hq.out.trans (by rw [hd])) (by rw [OC.orderB]; simp [hq0, hk0, OC.goesOn])
          have HG : Hid (∀ W, Calls Tryd.prog 87 #[opVal ⟨29, n, m⟩] W fun e w' => e = .returned (.bool false) ∧ Below W.heap.size W w') := fun W => goesonR_c _ W
          clear hd hq hk0
          go_wp2_with (go_at_call 87; refine (HG.out _).mono ?_; rintro e w1 ⟨rfl, hb1⟩; obtain ⟨hcc, hff⟩ := bcell hb1)
          all_goals go_ret
          all_goals exact ⟨by rw [hfail.out]; rfl, (below_then (below_then hbl (below_alloc _ _)) hb1)⟩
        · skip
          have e0 : ((k : Int) == 0) = false := by simp; omega
          have hnext : Hid (OC.orderB true 0 0 0 ops = OC.orderB (decide (k + 1 = 0)) (p) (l) (m) (ops.drop (k + 1))) := by
            show _ = _
            rw [hq.out, hd, OC.orderB]
            simp [hq0, hk0, OC.goesOn]
          have HG : Hid (∀ W, Calls Tryd.prog 87 #[opVal ⟨29, n, m⟩] W fun e w' => e = .returned (.bool false) ∧ Below W.heap.size W w') := fun W => goesonR_c _ W
          clear hd hq hk0
          go_wp2_with (go_at_call 87; refine (HG.out _).mono ?_; rintro e w1 ⟨rfl, hb1⟩; obtain ⟨hcc, hff⟩ := bcell hb1)
          all_goals go_roundw
          all_goals first | (case rel => exact ⟨k + 1, p, l, m, by omega, by go_num, by first | rfl | go_num, by first | rfl | go_num, by first | rfl | go_num, by omega, by omega, by omega, by omega, hnext, ((HBOX.out.keep (below_alloc wr _) hwz).keep hb1 (by simp; omega)), (below_then (below_then hbl (below_alloc _ _)) hb1)⟩) | (simp [intOf]; omega)
      have e29 : (op == 29) = false := by simpa using h29
      by_cases h19 : op = 19
      · subst h19
        clear h30 e30 h24 e24 n24 h29 e29
        by_cases hend : k + 1 < ol
        case neg =>
          have hY : OC.nx (ops.drop (k + 1)) = 24 := nx_end (by rw [← HO.out]; omega)
          have k2 : decide ((ol : Int) ≤ (k : Int) + 1) = true := by rw [decide_eq_true_iff]; omega
          have hfail : Hid (OC.orderOk ⟨name, data, ops, globals, procs, labels⟩ = false) := orderOk_none (c := ⟨name, data, ops, globals, procs, labels⟩) (hq.out.trans (by rw [hd])) (by rw [OC.orderB]; simp [hq0, hY, OC.goesOn])
          clear hd hq hY hend
          go_wp2
          all_goals go_ret
          all_goals exact ⟨by rw [hfail.out]; rfl, (below_then hbl (below_alloc _ _))⟩
        obtain ⟨hx1, b', off', e', g0, g1, g2⟩ := HOI.out.get hend
        clear hx1
        simp only [Option.some.injEq, Addr.mk.injEq] at e'
        obtain ⟨rfl, rfl, _⟩ := e'
        have hY := nx_drop (l := ops) (k := k + 1) (by rw [← HO.out]; exact hend)
        generalize ops.getD (k + 1) OC.oz = y at *
        obtain ⟨yop, yn, ym⟩ := y
        dsimp only at g0 hY
        have k2 : decide ((ol : Int) ≤ (k : Int) + 1) = false := by rw [decide_eq_false_iff_not]; omega
        have k3 : (k : Int) + 1 < (ol : Int) := by omega
        by_cases hk0 : k = 0
        · skip
          by_cases hy18 : yop = 18
          · subst hy18
            have e0 : ((k : Int) == 0) = true := by simp [hk0]
            have hfail : Hid (OC.orderOk ⟨name, data, ops, globals, procs, labels⟩ = false) := orderOk_none (c := ⟨name, data, ops, globals, procs, labels⟩) (hq.out.trans (by rw [hd])) (by rw [OC.orderB]; simp [hq0, hY, hk0, OC.goesOn])
            have HG : Hid (∀ W, Calls Tryd.prog 87 #[opVal ⟨19, n, m⟩] W fun e w' => e = .returned (.bool true) ∧ Below W.heap.size W w') := fun W => goesonR_c _ W
            clear hd hq hY hk0
            go_wp2_with (go_at_call 87; refine (HG.out _).mono ?_; rintro e w1 ⟨rfl, hb1⟩; obtain ⟨hcc, hff⟩ := bcell hb1)
            all_goals go_ret
            all_goals exact ⟨by rw [hfail.out]; rfl, (below_then (below_then hbl (below_alloc _ _)) hb1)⟩
          by_cases hy28 : yop = 28
          · subst hy28
            have e0 : ((k : Int) == 0) = true := by simp [hk0]
            have hfail : Hid (OC.orderOk ⟨name, data, ops, globals, procs, labels⟩ = false) := orderOk_none (c := ⟨name, data, ops, globals, procs, labels⟩) (hq.out.trans (by rw [hd])) (by rw [OC.orderB]; simp [hq0, hY, hk0, OC.goesOn])
            have HG : Hid (∀ W, Calls Tryd.prog 87 #[opVal ⟨19, n, m⟩] W fun e w' => e = .returned (.bool true) ∧ Below W.heap.size W w') := fun W => goesonR_c _ W
            clear hd hq hY hk0
            go_wp2_with (go_at_call 87; refine (HG.out _).mono ?_; rintro e w1 ⟨rfl, hb1⟩; obtain ⟨hcc, hff⟩ := bcell hb1)
            all_goals go_ret
            all_goals exact ⟨by rw [hfail.out]; rfl, (below_then (below_then hbl (below_alloc _ _)) hb1)⟩
          by_cases hy19 : yop = 19
          · subst hy19
            have e0 : ((k : Int) == 0) = true := by simp [hk0]
            have hfail : Hid (OC.orderOk ⟨name, data, ops, globals, procs, labels⟩ = false) := orderOk_none (c := ⟨name, data, ops, globals, procs, labels⟩) (hq.out.trans (by rw [hd])) (by rw [OC.orderB]; simp [hq0, hY, hk0, OC.goesOn])
            have HG : Hid (∀ W, Calls Tryd.prog 87 #[opVal ⟨19, n, m⟩] W fun e w' => e = .returned (.bool true) ∧ Below W.heap.size W w') := fun W => goesonR_c _ W
            clear hd hq hY hk0
            go_wp2_with (go_at_call 87; refine (HG.out _).mono ?_; rintro e w1 ⟨rfl, hb1⟩; obtain ⟨hcc, hff⟩ := bcell hb1)
            all_goals go_ret
            all_goals exact ⟨by rw [hfail.out]; rfl, (below_then (below_then hbl (below_alloc _ _)) hb1)⟩
          have e0 : ((k : Int) == 0) = true := by simp [hk0]
          have f18 : (yop != 18) = true := by simpa using hy18
          have f18b : (yop == 18) = false := by simpa using hy18
          have f28 : (yop != 28) = true := by simpa using hy28
          have f28b : (yop == 28) = false := by simpa using hy28
          have f19 : (yop != 19) = true := by simpa using hy19
          have f19b : (yop == 19) = false := by simpa using hy19
          have hfail : Hid (OC.orderOk ⟨name, data, ops, globals, procs, labels⟩ = false) := orderOk_none (c := ⟨name, data, ops, globals, procs, labels⟩) (hq.out.trans (by rw [hd])) (by rw [OC.orderB]; simp [hq0, hY, hk0, hy18, hy28, hy19, OC.goesOn])
          clear hd hq hY hk0 hy18 hy28 hy19
          go_wp2
          all_goals go_ret
          all_goals exact ⟨by rw [hfail.out]; rfl, (below_then hbl (below_alloc _ _))⟩
        · skip
          by_cases hy18 : yop = 18
          · subst hy18
            have e0 : ((k : Int) == 0) = false := by simp; omega
            have hnext : Hid (OC.orderB true 0 0 0 ops = OC.orderB (decide (k + 1 = 0)) (p) (max l n) (q) (ops.drop (k + 1))) := by
              show _ = _
              rw [hq.out, hd, OC.orderB]
              simp [hq0, hY, hk0, OC.goesOn]
            have HG : Hid (∀ W, Calls Tryd.prog 87 #[opVal ⟨19, n, m⟩] W fun e w' => e = .returned (.bool true) ∧ Below W.heap.size W w') := fun W => goesonR_c _ W
            clear hd hq hY hk0
            go_wp2_with (go_at_call 87; refine (HG.out _).mono ?_; rintro e w1 ⟨rfl, hb1⟩; obtain ⟨hcc, hff⟩ := bcell hb1)
            all_goals go_roundw
            all_goals first | (case rel => exact ⟨k + 1, p, max l n, q, by omega, by go_num, by first | rfl | go_num, by first | rfl | go_num, by first | rfl | go_num, by omega, by omega, by omega, by omega, hnext, ((HBOX.out.keep (below_alloc wr _) hwz).keep hb1 (by simp; omega)), (below_then (below_then hbl (below_alloc _ _)) hb1)⟩) | (simp [intOf]; omega)
          by_cases hy28 : yop = 28
          · subst hy28
            have e0 : ((k : Int) == 0) = false := by simp; omega
            have hnext : Hid (OC.orderB true 0 0 0 ops = OC.orderB (decide (k + 1 = 0)) (p) (max l n) (q) (ops.drop (k + 1))) := by
              show _ = _
              rw [hq.out, hd, OC.orderB]
              simp [hq0, hY, hk0, OC.goesOn]
            have HG : Hid (∀ W, Calls Tryd.prog 87 #[opVal ⟨19, n, m⟩] W fun e w' => e = .returned (.bool true) ∧ Below W.heap.size W w') := fun W => goesonR_c _ W
            clear hd hq hY hk0
            go_wp2_with (go_at_call 87; refine (HG.out _).mono ?_; rintro e w1 ⟨rfl, hb1⟩; obtain ⟨hcc, hff⟩ := bcell hb1)
            all_goals go_roundw
            all_goals first | (case rel => exact ⟨k + 1, p, max l n, q, by omega, by go_num, by first | rfl | go_num, by first | rfl | go_num, by first | rfl | go_num, by omega, by omega, by omega, by omega, hnext, ((HBOX.out.keep (below_alloc wr _) hwz).keep hb1 (by simp; omega)), (below_then (below_then hbl (below_alloc _ _)) hb1)⟩) | (simp [intOf]; omega)
          by_cases hy19 : yop = 19
          · subst hy19
            have e0 : ((k : Int) == 0) = false := by simp; omega
            have hnext : Hid (OC.orderB true 0 0 0 ops = OC.orderB (decide (k + 1 = 0)) (p) (max l n) (q) (ops.drop (k + 1))) := by
              show _ = _
              rw [hq.out, hd, OC.orderB]
              simp [hq0, hY, hk0, OC.goesOn]
            have HG : Hid (∀ W, Calls Tryd.prog 87 #[opVal ⟨19, n, m⟩] W fun e w' => e = .returned (.bool true) ∧ Below W.heap.size W w') := fun W => goesonR_c _ W
            clear hd hq hY hk0
            go_wp2_with (go_at_call 87; refine (HG.out _).mono ?_; rintro e w1 ⟨rfl, hb1⟩; obtain ⟨hcc, hff⟩ := bcell hb1)
            all_goals go_roundw
            all_goals first | (case rel => exact ⟨k + 1, p, max l n, q, by omega, by go_num, by first | rfl | go_num, by first | rfl | go_num, by first | rfl | go_num, by omega, by omega, by omega, by omega, hnext, ((HBOX.out.keep (below_alloc wr _) hwz).keep hb1 (by simp; omega)), (below_then (below_then hbl (below_alloc _ _)) hb1)⟩) | (simp [intOf]; omega)
          have e0 : ((k : Int) == 0) = false := by simp; omega
          have f18 : (yop != 18) = true := by simpa using hy18
          have f18b : (yop == 18) = false := by simpa using hy18
          have f28 : (yop != 28) = true := by simpa using hy28
          have f28b : (yop == 28) = false := by simpa using hy28
          have f19 : (yop != 19) = true := by simpa using hy19
          have f19b : (yop == 19) = false := by simpa using hy19
          have hfail : Hid (OC.orderOk ⟨name, data, ops, globals, procs, labels⟩ = false) := orderOk_none (c := ⟨name, data, ops, globals, procs, labels⟩) (hq.out.trans (by rw [hd])) (by rw [OC.orderB]; simp [hq0, hY, hk0, hy18, hy28, hy19, OC.goesOn])
          clear hd hq hY hk0 hy18 hy28 hy19
          go_wp2
          all_goals go_ret
          all_goals exact ⟨by rw [hfail.out]; rfl, (below_then hbl (below_alloc _ _))⟩
      have e19 : (op == 19) = false := by simpa using h19
      by_cases hg : OC.goesOn ⟨op, n, m⟩ = true
      · by_cases hend : k + 1 < ol
        case neg =>
          have hY : OC.nx (ops.drop (k + 1)) = 24 := nx_end (by rw [← HO.out]; omega)
          have k2 : decide ((ol : Int) ≤ (k : Int) + 1) = true := by rw [decide_eq_true_iff]; omega
          have hfail : Hid (OC.orderOk ⟨name, data, ops, globals, procs, labels⟩ = false) := orderOk_none (c := ⟨name, data, ops, globals, procs, labels⟩) (hq.out.trans (by rw [hd])) (by rw [OC.orderB]; simp [hq0, hY, h30, h24, h29, h19, hg])
          have HG : Hid (∀ W, Calls Tryd.prog 87 #[opVal ⟨op, n, m⟩] W fun e w' => e = .returned (.bool true) ∧ Below W.heap.size W w') := fun W => by have h := goesonR_c ⟨op, n, m⟩ W; rwa [hg] at h
          clear hd hq hY hend h30 h24 h29 h19 hg
          go_wp2_with (go_at_call 87; refine (HG.out _).mono ?_; rintro e w1 ⟨rfl, hb1⟩; obtain ⟨hcc, hff⟩ := bcell hb1)
          all_goals go_ret
          all_goals exact ⟨by rw [hfail.out]; rfl, (below_then (below_then hbl (below_alloc _ _)) hb1)⟩
        obtain ⟨hx1, b', off', e', g0, g1, g2⟩ := HOI.out.get hend
        clear hx1
        simp only [Option.some.injEq, Addr.mk.injEq] at e'
        obtain ⟨rfl, rfl, _⟩ := e'
        have hY := nx_drop (l := ops) (k := k + 1) (by rw [← HO.out]; exact hend)
        generalize ops.getD (k + 1) OC.oz = y at *
        obtain ⟨yop, yn, ym⟩ := y
        dsimp only at g0 hY
        have k2 : decide ((ol : Int) ≤ (k : Int) + 1) = false := by rw [decide_eq_false_iff_not]; omega
        have k3 : (k : Int) + 1 < (ol : Int) := by omega
        by_cases hy24 : yop = 24
        · subst hy24
          have hfail : Hid (OC.orderOk ⟨name, data, ops, globals, procs, labels⟩ = false) := orderOk_none (c := ⟨name, data, ops, globals, procs, labels⟩) (hq.out.trans (by rw [hd])) (by rw [OC.orderB]; simp [hq0, hY, h30, h24, h29, h19, hg])
          have HG : Hid (∀ W, Calls Tryd.prog 87 #[opVal ⟨op, n, m⟩] W fun e w' => e = .returned (.bool true) ∧ Below W.heap.size W w') := fun W => by have h := goesonR_c ⟨op, n, m⟩ W; rwa [hg] at h
          clear hd hq hY h30 h24 h29 h19 hg
          go_wp2_with (go_at_call 87; refine (HG.out _).mono ?_; rintro e w1 ⟨rfl, hb1⟩; obtain ⟨hcc, hff⟩ := bcell hb1)
          all_goals go_ret
          all_goals exact ⟨by rw [hfail.out]; rfl, (below_then (below_then hbl (below_alloc _ _)) hb1)⟩
        have e1 : (yop == 24) = false := by simpa using hy24
        by_cases hk0 : k = 0
        · skip
          have e0 : ((k : Int) == 0) = true := by simp [hk0]
          have hfail : Hid (OC.orderOk ⟨name, data, ops, globals, procs, labels⟩ = false) := orderOk_none (c := ⟨name, data, ops, globals, procs, labels⟩) (hq.out.trans (by rw [hd])) (by rw [OC.orderB]; simp [hq0, hY, hk0, h30, h24, h29, h19, hy24, hg])
          have HG : Hid (∀ W, Calls Tryd.prog 87 #[opVal ⟨op, n, m⟩] W fun e w' => e = .returned (.bool true) ∧ Below W.heap.size W w') := fun W => by have h := goesonR_c ⟨op, n, m⟩ W; rwa [hg] at h
          clear hd hq hY hk0 h30 h24 h29 h19 hy24 hg
          go_wp2_with (go_at_call 87; refine (HG.out _).mono ?_; rintro e w1 ⟨rfl, hb1⟩; obtain ⟨hcc, hff⟩ := bcell hb1)
          all_goals go_ret
          all_goals exact ⟨by rw [hfail.out]; rfl, (below_then (below_then hbl (below_alloc _ _)) hb1)⟩
        · skip
          have e0 : ((k : Int) == 0) = false := by simp; omega
          have hnext : Hid (OC.orderB true 0 0 0 ops = OC.orderB (decide (k + 1 = 0)) (p) (l) (q) (ops.drop (k + 1))) := by
            show _ = _
            rw [hq.out, hd, OC.orderB]
            simp [hq0, hY, hk0, h30, h24, h29, h19, hy24, hg]
          have HG : Hid (∀ W, Calls Tryd.prog 87 #[opVal ⟨op, n, m⟩] W fun e w' => e = .returned (.bool true) ∧ Below W.heap.size W w') := fun W => by have h := goesonR_c ⟨op, n, m⟩ W; rwa [hg] at h
          clear hd hq hY hk0 h30 h24 h29 h19 hy24 hg
          go_wp2_with (go_at_call 87; refine (HG.out _).mono ?_; rintro e w1 ⟨rfl, hb1⟩; obtain ⟨hcc, hff⟩ := bcell hb1)
          all_goals go_roundw
          all_goals first | (case rel => exact ⟨k + 1, p, l, q, by omega, by go_num, by first | rfl | go_num, by first | rfl | go_num, by first | rfl | go_num, by omega, by omega, by omega, by omega, hnext, ((HBOX.out.keep (below_alloc wr _) hwz).keep hb1 (by simp; omega)), (below_then (below_then hbl (below_alloc _ _)) hb1)⟩) | (simp [intOf]; omega)
      · rw [Bool.not_eq_true] at hg
        by_cases hk0 : k = 0
        · skip
          have e0 : ((k : Int) == 0) = true := by simp [hk0]
          have hfail : Hid (OC.orderOk ⟨name, data, ops, globals, procs, labels⟩ = false) := orderOk_none (c := ⟨name, data, ops, globals, procs, labels⟩) (hq.out.trans (by rw [hd])) (by rw [OC.orderB]; simp [hq0, hk0, h30, h24, h29, h19, hg])
          have HG : Hid (∀ W, Calls Tryd.prog 87 #[opVal ⟨op, n, m⟩] W fun e w' => e = .returned (.bool false) ∧ Below W.heap.size W w') := fun W => by have h := goesonR_c ⟨op, n, m⟩ W; rwa [hg] at h
          clear hd hq hk0 h30 h24 h29 h19 hg
          go_wp2_with (go_at_call 87; refine (HG.out _).mono ?_; rintro e w1 ⟨rfl, hb1⟩; obtain ⟨hcc, hff⟩ := bcell hb1)
          all_goals go_ret
          all_goals exact ⟨by rw [hfail.out]; rfl, (below_then (below_then hbl (below_alloc _ _)) hb1)⟩
        · skip
          have e0 : ((k : Int) == 0) = false := by simp; omega
          have hnext : Hid (OC.orderB true 0 0 0 ops = OC.orderB (decide (k + 1 = 0)) (p) (l) (q) (ops.drop (k + 1))) := by
            show _ = _
            rw [hq.out, hd, OC.orderB]
            simp [hq0, hk0, h30, h24, h29, h19, hg]
          have HG : Hid (∀ W, Calls Tryd.prog 87 #[opVal ⟨op, n, m⟩] W fun e w' => e = .returned (.bool false) ∧ Below W.heap.size W w') := fun W => by have h := goesonR_c ⟨op, n, m⟩ W; rwa [hg] at h
          clear hd hq hk0 h30 h24 h29 h19 hg
          go_wp2_with (go_at_call 87; refine (HG.out _).mono ?_; rintro e w1 ⟨rfl, hb1⟩; obtain ⟨hcc, hff⟩ := bcell hb1)
          all_goals go_roundw
          all_goals first | (case rel => exact ⟨k + 1, p, l, q, by omega, by go_num, by first | rfl | go_num, by first | rfl | go_num, by first | rfl | go_num, by omega, by omega, by omega, by omega, hnext, ((HBOX.out.keep (below_alloc wr _) hwz).keep hb1 (by simp; omega)), (below_then (below_then hbl (below_alloc _ _)) hb1)⟩) | (simp [intOf]; omega)
    · obtain rfl : k = ol := by omega
      have hfin : Hid (OC.orderOk ⟨name, data, ops, globals, procs, labels⟩ = (decide (q = 0) && decide (p = procs) && decide (l = labels))) := by
        show _ = _
        unfold OC.orderOk
        rw [hq.out, List.drop_eq_nil_of_le (by rw [← HO.out]; exact Nat.le_refl _)]
        simp only [OC.orderB]
        rw [Bool.eq_iff_iff]
        simp only [decide_eq_true_iff, Option.some.injEq, Prod.mk.injEq, Bool.and_eq_true]
        constructor
        · rintro ⟨h1, h2, h3⟩; exact ⟨⟨h3, h1⟩, h2⟩
        · rintro ⟨⟨h3, h1⟩, h2⟩; exact ⟨h1, h2, h3⟩
      clear hq
      go_wp2
      all_goals go_ret
      all_goals refine ⟨?_, hbl⟩
      all_goals go_light
      all_goals (rw [hfin.out]; (simp_all <;> rfl))
end Go.Proofs.YthlakfgpmggceaaDoor
