/- The program's small functions on instructions: what each answers. -/
import Derived.Test.YtfnkafnjpldaoaaDoorOcRd
import Derived.Test.YtfnkafnjpldaoaaDoorOcQd
import Derived.Outline
import Derived.IntWalk
import Derived.Deep.Light
import Derived.Test.YtfnkafnjpldaoaaDoorOcLn
import Derived.Test.YtfnkafnjpldaoaaDoorOcTm
import Derived.Test.YtfnkafnjpldaoaaDoorOcEc
import Derived.Deep.RegionHeld3
namespace Go.Proofs.YtfnkafnjpldaoaaDoor
open Go.RowKit
set_option linter.unusedVariables false
set_option linter.unusedSimpArgs false
theorem isInstructionP_c (v : Int) (w : World) :
    Calls Tryd.prog 35 #[.int .i64 v] w fun e w' => e = .returned (.bool (OC.inB v 1 30)) ∧ w = w' := by
  go_enter Tryd.func35, Tryd.ntmps35
  go_wp2
  all_goals go_ret
  all_goals refine ⟨?_, rfl⟩
  all_goals go_light
  all_goals (by_cases h1 : 1 ≤ v <;> by_cases h2 : v ≤ 30 <;> simp_all [OC.inB] <;> omega)
theorem setsDepthP_c (v : Int) (w : World) :
    Calls Tryd.prog 37 #[.int .i64 v] w fun e w' => e = .returned (.bool (decide (v = 18 ∨ v = 28 ∨ v = 19))) ∧ w = w' := by
  go_enter Tryd.func37, Tryd.ntmps37
  go_wp2
  all_goals go_ret
  all_goals refine ⟨?_, rfl⟩
  all_goals go_light
  all_goals (by_cases h1 : v = 18 <;> by_cases h2 : v = 28 <;> by_cases h3 : v = 19 <;> simp_all)
set_option maxHeartbeats 4000000 in
theorem behindP_c (o : OC.Op) (d : Int) (w : World) (h1 : -2147483648 ≤ o.n) (h2 : o.n ≤ 2147483647) (h3 : -2147483648 ≤ o.m) (h4 : o.m ≤ 2147483647) (h5 : -2147483648 ≤ d) (h6 : d ≤ 2147483647) :
    Calls Tryd.prog 14 #[opVal o, .int .i64 d] w fun e w' => e = .returned (.int .i64 (OC.after o d)) ∧ Below w.heap.size w w' := by
  obtain ⟨op, n, m⟩ := o
  dsimp only at h1 h2 h3 h4
  go_enter Tryd.func14, Tryd.ntmps14
  go_wp2
  all_goals go_ret
  all_goals refine ⟨?_, below_alloc _ _⟩
  all_goals go_light
  all_goals (simp_all [OC.after] <;> omega)
set_option maxHeartbeats 4000000 in
theorem fitsP_c (o : OC.Op) (d : Int) (w : World) (h1 : -2147483648 ≤ o.n) (h2 : o.n ≤ 2147483647) (h5 : -2147483648 ≤ d) (h6 : d ≤ 2147483647) :
    Calls Tryd.prog 29 #[opVal o, .int .i64 d] w fun e w' => e = .returned (.bool (OC.fitQ o d)) ∧ Below w.heap.size w w' := by
  obtain ⟨op, n, m⟩ := o
  dsimp only at h1 h2
  go_enter Tryd.func29, Tryd.ntmps29
  go_wp2
  all_goals go_ret
  all_goals refine ⟨?_, below_alloc _ _⟩
  all_goals go_light
  all_goals (simp_all [OC.fitQ] <;> omega)
end Go.Proofs.YtfnkafnjpldaoaaDoor
namespace Go.Proofs.YtfnkafnjpldaoaaDoor
open Go.RowKit
set_option linter.unusedVariables false
set_option linter.unusedSimpArgs false
set_option maxHeartbeats 2000000 in
theorem boundsP_c (c : OC.Code) (da oa ga : Option Addr) (dl dc ol oc gl gc : Nat) (k : Int) (w : World) (hk : 0 ≤ k ∧ k ≤ 10) (hd : dl ≤ 140737488355328) :
    Calls Tryd.prog 40 #[.int .i64 k, codeV c da oa ga dl dc ol oc gl gc] w fun e w' => e = .returned (.tuple #[.int .i64 (OC.lowQ k), .int .i64 (OC.highQ (dl : Int) c.procs c.labels k)]) ∧ Below w.heap.size w w' := by
  obtain ⟨name, data, ops, globals, procs, labels⟩ := c
  have hd2 : (dl : Int) ≤ 140737488355328 := by omega
  have hd3 : (0 : Int) ≤ (dl : Int) := by omega
  have eq1 : IntKind.i64.wrap ((dl : Int) - 1) = (dl : Int) - 1 := IntWalk.i64_in _ (by omega)
  clear hd
  have h : k = 0 ∨ k = 1 ∨ k = 2 ∨ k = 3 ∨ k = 4 ∨ k = 5 ∨ k = 6 ∨ k = 7 ∨ k = 8 ∨ k = 9 ∨ k = 10 := by omega
  clear hk
  rcases h with rfl | rfl | rfl | rfl | rfl | rfl | rfl | rfl | rfl | rfl | rfl
  · go_enter Tryd.func40, Tryd.ntmps40
    go_wp2
    all_goals go_ret2
    all_goals exact ⟨by first | rfl | (simp [OC.lowQ, OC.highQ]), below_alloc _ _⟩
  · go_enter Tryd.func40, Tryd.ntmps40
    go_wp2
    all_goals go_ret2
    all_goals exact ⟨by first | rfl | (simp [OC.lowQ, OC.highQ]), below_alloc _ _⟩
  · go_enter Tryd.func40, Tryd.ntmps40
    go_wp2
    all_goals go_ret2
    all_goals exact ⟨by first | rfl | (simp [OC.lowQ, OC.highQ]), below_alloc _ _⟩
  · go_enter Tryd.func40, Tryd.ntmps40
    go_wp2
    all_goals go_ret2
    all_goals exact ⟨by first | rfl | (simp [OC.lowQ, OC.highQ]), below_alloc _ _⟩
  · go_enter Tryd.func40, Tryd.ntmps40
    go_wp2
    go_region
    all_goals go_wp2
    all_goals go_ret2
    all_goals exact ⟨by first | rfl | (simp [OC.lowQ, OC.highQ]), below_drewN (below_alloc _ _) 1⟩
  · go_enter Tryd.func40, Tryd.ntmps40
    go_wp2
    go_region
    all_goals go_wp2
    all_goals go_ret2
    all_goals exact ⟨by first | rfl | (simp [OC.lowQ, OC.highQ]), below_drewN (below_alloc _ _) 1⟩
  · go_enter Tryd.func40, Tryd.ntmps40
    go_wp2
    go_region
    all_goals go_wp2
    all_goals go_ret2
    all_goals exact ⟨by first | rfl | (simp [OC.lowQ, OC.highQ]), below_drewN (below_alloc _ _) 1⟩
  · go_enter Tryd.func40, Tryd.ntmps40
    go_wp2
    all_goals go_ret2
    all_goals exact ⟨by first | rfl | (simp [OC.lowQ, OC.highQ]), below_alloc _ _⟩
  · go_enter Tryd.func40, Tryd.ntmps40
    go_wp2
    all_goals go_ret2
    all_goals exact ⟨by first | rfl | (simp [OC.lowQ, OC.highQ]), below_alloc _ _⟩
  · go_enter Tryd.func40, Tryd.ntmps40
    go_wp2
    all_goals go_ret2
    all_goals exact ⟨by first | rfl | (simp [OC.lowQ, OC.highQ]), below_alloc _ _⟩
  · go_enter Tryd.func40, Tryd.ntmps40
    go_wp2
    all_goals go_ret2
    all_goals exact ⟨by first | rfl | (simp [OC.lowQ, OC.highQ]), below_alloc _ _⟩
set_option maxHeartbeats 2000000 in
theorem allowsP_c (c : OC.Code) (da oa ga : Option Addr) (dl dc ol oc gl gc : Nat) (k n : Int) (w : World) (hk : 0 ≤ k ∧ k ≤ 10) (hd : dl ≤ 140737488355328) :
    Calls Tryd.prog 36 #[.int .i64 k, .int .i64 n, codeV c da oa ga dl dc ol oc gl gc] w fun e w' => e = .returned (.bool (OC.allowQ (dl : Int) c.procs c.labels k n)) ∧ Below w.heap.size w w' := by
  have HB : Hid (∀ W, Calls Tryd.prog 40 #[.int .i64 k, codeV c da oa ga dl dc ol oc gl gc] W fun e w' => e = .returned (.tuple #[.int .i64 (OC.lowQ k), .int .i64 (OC.highQ (dl : Int) c.procs c.labels k)]) ∧ Below W.heap.size W w') := fun W => boundsP_c c da oa ga dl dc ol oc gl gc k W hk hd
  have hA : Hid (OC.allowQ (dl : Int) c.procs c.labels k n = (decide (OC.lowQ k ≤ n) && decide (n ≤ OC.highQ (dl : Int) c.procs c.labels k))) := rfl
  obtain ⟨lo, hlo⟩ : ∃ x, OC.lowQ k = x := ⟨_, rfl⟩
  obtain ⟨hi, hhi⟩ : ∃ x, OC.highQ (dl : Int) c.procs c.labels k = x := ⟨_, rfl⟩
  obtain ⟨R, hR⟩ : ∃ x, OC.allowQ (dl : Int) c.procs c.labels k n = x := ⟨_, rfl⟩
  rw [hlo, hhi] at HB hA
  rw [hR] at hA ⊢
  obtain ⟨name, data, ops, globals, procs, labels⟩ := c
  clear hlo hhi hR hd hk
  have hA' := hA.out
  by_cases h1 : lo ≤ n
  · by_cases h2 : n ≤ hi
    · obtain rfl : R = true := by rw [hA']; simp [h1, h2]
      clear hA hA'
      go_enter Tryd.func36, Tryd.ntmps36
      go_wp2_with (go_at_call 40; refine (HB.out _).mono ?_; rintro e w1 ⟨rfl, hb1⟩)
      all_goals go_ret
      all_goals exact ⟨by first | rfl | (show Ending.returned (.bool (decide (n ≤ hi))) = _; simp [h2]), below_then (below_alloc _ _) hb1⟩
    · obtain rfl : R = false := by rw [hA']; simp [h1, h2]
      clear hA hA'
      go_enter Tryd.func36, Tryd.ntmps36
      go_wp2_with (go_at_call 40; refine (HB.out _).mono ?_; rintro e w1 ⟨rfl, hb1⟩)
      all_goals go_ret
      all_goals exact ⟨by first | rfl | (show Ending.returned (.bool (decide (n ≤ hi))) = _; simp [h2]), below_then (below_alloc _ _) hb1⟩
  · obtain rfl : R = false := by rw [hA']; simp [h1]
    clear hA hA'
    go_enter Tryd.func36, Tryd.ntmps36
    go_wp2_with (go_at_call 40; refine (HB.out _).mono ?_; rintro e w1 ⟨rfl, hb1⟩)
    all_goals go_ret
    all_goals exact ⟨rfl, below_then (below_alloc _ _) hb1⟩
set_option maxHeartbeats 2000000 in
theorem mostWordsP_c (d : OC.Dat) (v : Value) (w : World) (hv : Rd .i64 w v d.words) (ht : d.text.length ≤ 140737488351232) :
    Calls Tryd.prog 20 #[.agg #[.string ⟨d.text.toArray⟩, .bool d.isText, v]] w fun e w' => e = .returned (.int .i64 (OC.mostW d : Nat)) ∧ Below w.heap.size w w' := by
  obtain ⟨text, isText, words⟩ := d
  dsimp only at hv ht
  obtain ⟨a, cap, rfl, h1, -⟩ := hv
  obtain ⟨L, hL⟩ : ∃ L, text.length = L := ⟨_, rfl⟩
  obtain ⟨M, hM⟩ : ∃ L, words.length = L := ⟨_, rfl⟩
  have hsz : (ByteArray.mk text.toArray).size = L := by simp [ByteArray.size, hL]
  rw [hL] at ht
  rw [hM]
  have hq : Hid ((((L + 2) / 2 : Nat) : Int) = ((L : Int) + 2) / 2) := by show _ = _; omega
  cases isText with
  | true =>
    have hm : Hid (OC.mostW ⟨text, true, words⟩ = (L + 2) / 2) := by show _ = _; simp [OC.mostW, hL]
    obtain ⟨R, hR⟩ : ∃ x, OC.mostW ⟨text, true, words⟩ = x := ⟨_, rfl⟩
    rw [hR] at hm ⊢
    clear hL hM h1 hR
    have e1 : (L : Int) ≤ 140737488351232 := by omega
    go_enter Tryd.func20, Tryd.ntmps20
    go_wp2
    all_goals go_ret
    all_goals refine ⟨?_, below_alloc _ _⟩
    all_goals rw [hm.out, hq.out]
    all_goals first | rfl | (simp; done) | (congr 2; go_num)
  | false =>
    have hm : Hid (OC.mostW ⟨text, false, words⟩ = M) := by show _ = _; simp [OC.mostW, hM]
    obtain ⟨R, hR⟩ : ∃ x, OC.mostW ⟨text, false, words⟩ = x := ⟨_, rfl⟩
    rw [hR] at hm ⊢
    clear hL hM h1 hR hq
    go_enter Tryd.func20, Tryd.ntmps20
    go_wp2
    all_goals go_ret
    all_goals exact ⟨by rw [hm.out]; rfl, below_alloc _ _⟩
theorem goQ_at {ops : List OC.Op} {k : Nat} {op n m : Int} : OC.goQ ⟨op, n, m⟩ (ops.drop (k + 1)) = (if op = 20 ∨ op = 25 ∨ op = 26 ∨ op = 27 then false else if op = 29 then decide (0 < m) else if op = 30 then decide (OC.nx (ops.drop (k + 1)) = 30) else true) := rfl
theorem nxd {l : List OC.Op} {k : Nat} (h : k < l.length) : OC.nx (l.drop k) = (l.getD k OC.oz).op := by
  rw [dropAt (d := OC.oz) h]; rfl
theorem nxe {l : List OC.Op} {k : Nat} (h : l.length ≤ k) : OC.nx (l.drop k) = 24 := by
  rw [List.drop_eq_nil_of_le h]; rfl
set_option maxRecDepth 100000 in
set_option maxHeartbeats 4000000 in
theorem goesOnP_c (ops : List OC.Op) (a : Option Addr) (len cap : Nat) (w : World) (k : Nat) (hr : RdO w (.slice a len cap) ops) (hk : k < ops.length) :
    Calls Tryd.prog 33 #[.slice a len cap, .int .i64 (k : Int)] w fun e w' => e = .returned (.bool (OC.goQ (ops.getD k OC.oz) (ops.drop (k + 1)))) ∧ Below w.heap.size w w' := by
  obtain ⟨hl, -, hl2⟩ := hr.len
  have hlt : k < len := by omega
  obtain ⟨-, b, off, rfl, h0, h1, h2⟩ := hr.get hlt
  have HR := Lib.hid hr
  have HL := Lib.hid hl
  generalize hx : ops.getD k OC.oz = x at *
  obtain ⟨op, n, m⟩ := x
  dsimp only at h0 h1 h2
  rw [goQ_at]
  have k1 : (k : Int) < (len : Int) := by omega
  clear hr hl hx
  by_cases a1 : op = 20 ∨ op = 25 ∨ op = 26 ∨ op = 27
  · rw [if_pos a1]
    rcases a1 with rfl | rfl | rfl | rfl <;>
    (go_enter Tryd.func33, Tryd.ntmps33
     go_wp2
     all_goals go_ret
     all_goals exact ⟨rfl, Below.refl _ _⟩)
  rw [if_neg a1]
  by_cases a2 : op = 29
  · rw [if_pos a2]
    subst a2
    by_cases hm : 0 < m
    all_goals
      (go_enter Tryd.func33, Tryd.ntmps33
       go_wp2
       all_goals go_ret
       all_goals exact ⟨by simp [hm], Below.refl _ _⟩)
  rw [if_neg a2]
  by_cases a3 : op = 30
  · rw [if_pos a3]
    subst a3
    by_cases hend : k + 1 < len
    · obtain ⟨-, b', off', e', g0, -, -⟩ := HR.out.get hend
      simp only [Option.some.injEq, Addr.mk.injEq] at e'
      obtain ⟨rfl, rfl, _⟩ := e'
      rw [nxd (by rw [← HL.out]; exact hend)]
      generalize ops.getD (k + 1) OC.oz = y at *
      obtain ⟨yop, yn, ym⟩ := y
      dsimp only at g0 ⊢
      have k3 : (k : Int) + 1 < (len : Int) := by omega
      by_cases hy : yop = 30
      · subst hy
        go_enter Tryd.func33, Tryd.ntmps33
        go_wp2
        all_goals go_ret
        all_goals exact ⟨by simp, Below.refl _ _⟩
      · have e1 : (yop == 30) = false := by simpa using hy
        go_enter Tryd.func33, Tryd.ntmps33
        go_wp2
        all_goals go_ret
        all_goals exact ⟨by simp [hy], Below.refl _ _⟩
    · rw [nxe (by rw [← HL.out]; omega)]
      have k3 : ¬ (k : Int) + 1 < (len : Int) := by omega
      go_enter Tryd.func33, Tryd.ntmps33
      go_wp2
      all_goals go_ret
      all_goals exact ⟨by simp, Below.refl _ _⟩
  rw [if_neg a3]
  have e1 : (op == 20) = false := by simp; omega
  have e2 : (op == 25) = false := by simp; omega
  have e3 : (op == 26) = false := by simp; omega
  have e4 : (op == 27) = false := by simp; omega
  have e5 : (op == 29) = false := by simpa using a2
  have e6 : (op == 30) = false := by simpa using a3
  clear a1 a2 a3
  go_enter Tryd.func33, Tryd.ntmps33
  go_wp2
  all_goals go_ret
  all_goals exact ⟨rfl, Below.refl _ _⟩
end Go.Proofs.YtfnkafnjpldaoaaDoor
namespace Go.Proofs.YtfnkafnjpldaoaaDoor
open Go.RowKit
set_option linter.unusedVariables false
set_option linter.unusedSimpArgs false
theorem cntO_le : ∀ (K : Int) (l : List OC.Op), OC.cntO K l ≤ l.length
  | _, [] => Nat.le_refl _
  | K, o :: r => by rw [OC.cntO, List.length_cons]; have := cntO_le K r; split <;> omega
set_option maxRecDepth 100000 in
set_option maxHeartbeats 4000000 in
theorem countP_c (ops : List OC.Op) (a : Option Addr) (len cap : Nat) (K : Int) (w : World) (hr : RdO w (.slice a len cap) ops) :
    Calls Tryd.prog 21 #[.slice a len cap, .int .i64 K] w fun e w' => e = .returned (.int .i64 (OC.cntO K ops : Nat)) ∧ Below w.heap.size w w' := by
  obtain ⟨hl, hc, hm⟩ := hr.len
  have HR := Lib.hid hr
  have HL := Lib.hid hl
  obtain ⟨C, hC⟩ : ∃ C, OC.cntO K ops = C := ⟨_, rfl⟩
  have HC := Lib.hid hC
  rw [hC]
  clear hr hl hC hc
  go_enter Tryd.func21, Tryd.ntmps21
  go_wp2
  go_loopw [5, 10] (fun s i wr => ∃ (k q : Nat), k ≤ len ∧ i = .int .i64 k ∧ s = .int .i64 q ∧ q ≤ k ∧ Hid (C = q + OC.cntO K (ops.drop k)) ∧ Below w.heap.size w wr) (fun _ i _ => len - (intOf i).toNat)
  case atStart => exact ⟨0, 0, Nat.zero_le _, rfl, rfl, Nat.le_refl _, (show Hid _ from by show _ = _; rw [← HC.out]; simp), Below.refl _ _⟩
  case round =>
    obtain ⟨k, q, hk, rfl, rfl, hqk, hq, hbl⟩ := hrel
    by_cases hlt : k < len
    · obtain ⟨-, b, off, rfl, h0, h1, h2⟩ := (show RdO wr (.slice a len cap) ops from HR.out.keep fun _ _ _ h => h.keep hbl).get hlt
      have hkl : k < ops.length := by rw [← HL.out]; exact hlt
      have hd := dropAt (d := OC.oz) hkl
      generalize ops.getD k OC.oz = x at *
      obtain ⟨op, n, m⟩ := x
      dsimp only at h0 h1 h2
      have k1 : (k : Int) < (len : Int) := by omega
      have hbb : b < wr.heap.size := World.block_lt_of_cell? _ _ h0
      have hbb1 : b < wr.heap.size + 1 := by omega
      by_cases hop : op = K
      · have hnext : Hid (C = q + 1 + OC.cntO K (ops.drop (k + 1))) := by show _ = _; rw [hq.out, hd, OC.cntO, if_pos hop]; omega
        subst hop
        clear hd hq hkl HC
        go_wp2
        all_goals go_roundw
        all_goals first | (case rel => exact ⟨k + 1, q + 1, by omega, by go_num, by go_num, by omega, hnext, below_then hbl (below_alloc _ _)⟩) | (simp [intOf]; omega)
      · have hnext : Hid (C = q + OC.cntO K (ops.drop (k + 1))) := by show _ = _; rw [hq.out, hd, OC.cntO, if_neg hop]; omega
        have e1 : (op == K) = false := by simpa using hop
        clear hd hq hkl HC hop
        go_wp2
        all_goals go_roundw
        all_goals first | (case rel => exact ⟨k + 1, q, by omega, by go_num, by first | rfl | go_num, by omega, hnext, below_then hbl (below_alloc _ _)⟩) | (simp [intOf]; omega)
    · obtain rfl : len = k := by omega
      have hfin : Hid (C = q) := by show _ = _; rw [hq.out, List.drop_eq_nil_of_le (by rw [← HL.out]; exact Nat.le_refl _), OC.cntO]; rfl
      have hx : ¬ (len : Int) < (len : Int) := by omega
      clear hq HC
      go_wp2
      all_goals go_ret
      all_goals exact ⟨by rw [hfin.out]; rfl, hbl⟩
theorem sumM_drop {l : List OC.Dat} {k : Nat} (h : k < l.length) : OC.sumM (l.drop k) = OC.mostW (l.getD k OC.dz) + OC.sumM (l.drop (k + 1)) := by
  rw [dropAt (d := OC.dz) h]; rfl
theorem mostW_le (d : OC.Dat) : OC.mostW d ≤ 1 + d.text.length + d.words.length := by unfold OC.mostW; split <;> omega
theorem sumM_le : ∀ (l : List OC.Dat), OC.sumM l ≤ wsum l
  | [] => Nat.le_refl _
  | d :: r => by rw [OC.sumM, wsum]; have := sumM_le r; have := mostW_le d; omega
set_option maxRecDepth 100000 in
set_option maxHeartbeats 8000000 in
theorem isWithinP_c (c : OC.Code) (da oa ga : Option Addr) (dl dc ol oc gl gc : Nat) (w : World) (hc : CodeIn w c da oa ga dl dc ol oc gl gc) (hs : Small c) :
    Calls Tryd.prog 15 #[codeV c da oa ga dl dc ol oc gl gc] w fun e w' => e = .returned (.bool (OC.withinQ c)) ∧ Below w.heap.size w w' := by
  obtain ⟨hdl, hdc, hdm⟩ := hc.data.len
  obtain ⟨hol, hoc, hom⟩ := hc.ops.len
  have HC := Lib.hid hc
  have hw2 := hs.weight
  have hol2 := hs.ops
  have hdl2 := wsum_len c.data
  have hsm := sumM_le c.data
  obtain ⟨SM, hSM⟩ : ∃ x, OC.sumM c.data = x := ⟨_, rfl⟩
  have HTX : Hid (∀ d ∈ c.data, d.text.length ≤ 2000) := fun d hd => by have := wsum_at hd; omega
  rw [hSM] at hsm
  obtain ⟨A24, h24⟩ : ∃ x, OC.cntO 24 c.ops = x := ⟨_, rfl⟩
  obtain ⟨A19, h19⟩ : ∃ x, OC.cntO 19 c.ops = x := ⟨_, rfl⟩
  have hl24 := cntO_le 24 c.ops
  have hl19 := cntO_le 19 c.ops
  rw [h24] at hl24
  rw [h19] at hl19
  have hres : OC.withinQ c = (decide (ol ≤ 40000) && decide (dl ≤ 2000) && decide (SM ≤ 7800) && decide (max c.procs A24 ≤ 200) && decide (max c.labels A19 ≤ 20000)) := by
    unfold OC.withinQ; rw [hSM, h24, h19, hol, hdl]
  have HC1 : Hid (∀ W, RdO W (.slice oa ol oc) c.ops → Calls Tryd.prog 21 #[.slice oa ol oc, .int .i64 24] W fun e w' => e = .returned (.int .i64 (A24 : Nat)) ∧ Below W.heap.size W w') := fun W hW => by have h := countP_c c.ops oa ol oc 24 W hW; rwa [h24] at h
  have HC2 : Hid (∀ W, RdO W (.slice oa ol oc) c.ops → Calls Tryd.prog 21 #[.slice oa ol oc, .int .i64 19] W fun e w' => e = .returned (.int .i64 (A19 : Nat)) ∧ Below W.heap.size W w') := fun W hW => by have h := countP_c c.ops oa ol oc 19 W hW; rwa [h19] at h
  obtain ⟨R, hR⟩ : ∃ x, OC.withinQ c = x := ⟨_, rfl⟩
  rw [hR] at hres ⊢
  have HRES := Lib.hid hres
  have HSM := Lib.hid hSM
  have HD := Lib.hid hdl
  rw [← hol] at hol2 hl24 hl19
  obtain ⟨name, data, ops, globals, procs, labels⟩ := c
  dsimp only at *
  have sm2 : SM ≤ 2000 := by omega
  have dl2 : dl ≤ 2000 := by omega
  clear hres hR h24 h19 hSM hc hs hol hdl hdl2 hsm hw2 hdc hoc hdm hom
  by_cases hA : ol ≤ 40000
  case neg =>
    have hx : (40000 : Int) < (ol : Int) := by omega
    have HR2 : Hid (R = false) := by show _ = _; rw [HRES.out]; simp [hA]
    clear HRES
    go_enter Tryd.func15, Tryd.ntmps15
    go_wp2
    all_goals go_ret
    all_goals exact ⟨by rw [HR2.out]; rfl, below_alloc _ _⟩
  have hx : ¬ (40000 : Int) < (ol : Int) := by omega
  have hy : ¬ (2000 : Int) < (dl : Int) := by omega
  go_enter Tryd.func15, Tryd.ntmps15
  go_wp2
  go_loopw [3, 19] (fun s i wr => ∃ (k q : Nat), k ≤ dl ∧ i = .int .i64 k ∧ s = .int .i64 q ∧ q ≤ 2000 ∧ Hid (SM = q + OC.sumM (data.drop k)) ∧ BoxC wr w.heap.size ⟨name, data, ops, globals, procs, labels⟩ da oa ga dl dc ol oc gl gc ∧ Below w.heap.size w wr) (fun _ i _ => dl - (intOf i).toNat)
  case atStart => exact ⟨0, 0, Nat.zero_le _, rfl, rfl, by omega, (show Hid _ from by show _ = _; rw [← HSM.out]; simp), BoxC.new w ⟨name, data, ops, globals, procs, labels⟩ _ _ _ _ _ _ _ _ _ _, below_alloc _ _⟩
  case round =>
    obtain ⟨k, q, hk, rfl, rfl, hqk, hq, hbox, hbl⟩ := hrel
    have HBOX := Lib.hid hbox
    obtain ⟨c0, c1, c2, c3, c4, c5⟩ := hbox
    by_cases hlt : k < dl
    · have HDI := Lib.hid (HC.out.keep hbl).data
      obtain ⟨-, b, off, rfl, h0, h1, v, h2, h3⟩ := HDI.out.get hlt
      have hkl : k < data.length := by rw [← HD.out]; exact hlt
      have hd := sumM_drop hkl
      have htx := HTX.out _ (getD_map_range data OC.dz hkl)
      generalize data.getD k OC.dz = x at *
      have hq2 : q + OC.mostW x ≤ 2000 := by have h1 := hq.out; rw [hd] at h1; omega
      have hnext : Hid (SM = q + OC.mostW x + OC.sumM (data.drop (k + 1))) := by show _ = _; rw [hq.out, hd]; omega
      have HMW : Hid (∀ W, Rd .i64 W v x.words → Calls Tryd.prog 20 #[.agg #[.string ⟨x.text.toArray⟩, .bool x.isText, v]] W fun e w' => e = .returned (.int .i64 (OC.mostW x : Nat)) ∧ Below W.heap.size W w') := fun W hW => mostWordsP_c x v W hW (by omega)
      obtain ⟨M, hM⟩ : ∃ M, OC.mostW x = M := ⟨_, rfl⟩
      rw [hM] at HMW hnext hq2
      obtain ⟨va, vc, rfl, h3b⟩ := h3
      have HV : Hid (Rd .i64 wr (.slice va x.words.length vc) x.words) := ⟨va, vc, rfl, h3b⟩
      obtain ⟨wl, hwl⟩ : ∃ n, x.words.length = n := ⟨_, rfl⟩
      rw [hwl] at HV HMW h2
      clear h3b hwl
      obtain ⟨text, isText, words⟩ := x
      dsimp only at h0 h1 h2 HMW HV htx
      have k1 : (k : Int) < (dl : Int) := by omega
      have hwz := HBOX.out.lt
      have hbb : b < wr.heap.size := World.block_lt_of_cell? _ _ h0
      have hbb1 : b < wr.heap.size + 1 := by omega
      have hwz1 : w.heap.size < wr.heap.size + 1 := by omega
      clear hd hq hkl hM htx HSM HRES
      go_wp2_with (go_at_call 20; refine (HMW.out _ (HV.out.keep (below_alloc _ _))).mono ?_; rintro e w1 ⟨rfl, hb1⟩)
      all_goals go_roundw
      all_goals first | (case rel => exact ⟨k + 1, q + M, by omega, by go_num, by go_num, by omega, hnext, ((HBOX.out.keep (below_alloc wr _) hwz).keep hb1 (by simp; omega)), below_then (below_then hbl (below_alloc _ _)) hb1⟩) | (simp [intOf]; omega)
    · obtain rfl : dl = k := by omega
      have hfin : SM = q := by rw [hq.out, List.drop_eq_nil_of_le (by rw [← HD.out]; exact Nat.le_refl _), OC.sumM]; rfl
      subst hfin
      have hz : ¬ (dl : Int) < (dl : Int) := by omega
      have HBW := Lib.hid hbl
      have HR : Hid (∀ W, Below wr.heap.size wr W → RdO W (.slice oa ol oc) ops) := fun W hW => ((HC.out.keep hbl).keep hW).ops
      clear hq HSM hbl hlt hk
      by_cases hB : SM ≤ 7800
      case neg => exact absurd hB (by omega)
      have b1 : (SM : Int) ≤ 7800 := by omega
      by_cases hP : max procs (A24 : Int) ≤ 200
      case neg =>
        replace HRES : Hid (R = false) := by show _ = _; rw [HRES.out]; simp [hP]
        have p1 : ((if procs < (A24 : Int) then (A24 : Int) else procs) ≤ 200) = False := by rw [eq_iff_iff]; refine ⟨fun h => ?_, False.elim⟩; split at h <;> omega
        go_wp2
        refine wp_region_held_drew (S := (fun w' => w'.cell? ⟨w.heap.size, 2, none⟩ = some (.slice oa ol oc) ∧ w'.cell? ⟨w.heap.size, 4, none⟩ = some (.int .i64 procs) ∧ w'.cell? ⟨w.heap.size, 5, none⟩ = some (.int .i64 labels))) (by kernel_rfl) ?_ (fun hHeld => ?_)
        · go_keep
        refine eqTake (i := 0) (v := ?vb0) rfl rfl (by kernel_rfl) (by kernel_rfl) (by kernel_rfl) (fun _ _ _ h => h) (Or.inl ⟨by rfl, ?hyb0⟩) (by assumption) ?restb0
        case hyb0 => (intro W hSw; (try dsimp only at hSw); go_simp; try with_reducible rfl)
        try simp only [Act.put, List.setIfInBounds_toArray, List.set_cons_zero, List.set_cons_succ]
        refine eqTake (i := 1) (v := ?vb1) rfl rfl (by kernel_rfl) (by kernel_rfl) (by kernel_rfl) (fun _ _ _ h => h) (Or.inl ⟨by rfl, ?hyb1⟩) (by assumption) ?restb1
        case hyb1 => (intro W hSw; (try dsimp only at hSw); go_simp; try with_reducible rfl)
        try simp only [Act.put, List.setIfInBounds_toArray, List.set_cons_zero, List.set_cons_succ]
        refine eqTake (i := 2) (v := ?vb2) rfl rfl (by kernel_rfl) (by kernel_rfl) (by kernel_rfl) (fun _ _ _ h => h) (Or.inl ⟨by rfl, ?hyb2⟩) (by assumption) ?restb2
        case hyb2 => (intro W hSw; (try dsimp only at hSw); go_simp; try with_reducible rfl)
        try simp only [Act.put, List.setIfInBounds_toArray, List.set_cons_zero, List.set_cons_succ]
        refine eqTake (i := 3) (v := ?vb3) rfl rfl (by kernel_rfl) (by kernel_rfl) (by kernel_rfl) (fun _ _ _ h => h) (Or.inl ⟨by rfl, ?hyb3⟩) (by assumption) ?restb3
        case hyb3 => (intro W hSw; (try dsimp only at hSw); go_simp; try with_reducible rfl)
        try simp only [Act.put, List.setIfInBounds_toArray, List.set_cons_zero, List.set_cons_succ]
        refine eqTake (i := 4) (v := ?vb4) rfl rfl (by kernel_rfl) (by kernel_rfl) (by kernel_rfl) (fun _ _ _ h => h) (Or.inl ⟨by rfl, ?hyb4⟩) (by assumption) ?restb4
        case hyb4 => (intro W hSw; (try dsimp only at hSw); go_simp; try with_reducible rfl)
        try simp only [Act.put, List.setIfInBounds_toArray, List.set_cons_zero, List.set_cons_succ]
        refine eqTake (i := 5) (v := ?vb5) rfl rfl (by kernel_rfl) (by kernel_rfl) (by kernel_rfl) (fun _ _ _ h => h) (Or.inl ⟨by rfl, ?hyb5⟩) (by assumption) ?restb5
        case hyb5 => (intro W hSw; (try dsimp only at hSw); go_simp; try with_reducible rfl)
        try simp only [Act.put, List.setIfInBounds_toArray, List.set_cons_zero, List.set_cons_succ]
        refine eqTake (i := 6) (v := ?vb6) rfl rfl (by kernel_rfl) (by kernel_rfl) (by kernel_rfl) (fun _ _ _ h => h) (Or.inl ⟨by rfl, ?hyb6⟩) (by assumption) ?restb6
        case hyb6 => (intro W hSw; (try dsimp only at hSw); go_simp; try with_reducible rfl)
        try simp only [Act.put, List.setIfInBounds_toArray, List.set_cons_zero, List.set_cons_succ]
        refine wpAnyH_ready (rs := [7]) (by kernel_rfl) (by simp) ?_
        refine AllReadyH.cons rfl (fun K hK => ?_) AllReadyH.nil
        go_simp
        go_at_call 21
        refine (HC1.out _ (HR.out _ (by exact Below.refl _ _ |>.drew))).mono ?_
        rintro e w3 ⟨rfl, hb3⟩
        refine hK.out _ _ ?_ (fun hHeld => ?_)
        · (try dsimp only at hHeld ⊢); go_split_ands; refine ⟨?_, ?_, ?_⟩ <;> exact (hb3.cell (World.block_lt_of_cell? _ _ (by assumption))).trans (by assumption)
        clear hK K
        try simp only [Act.put, List.setIfInBounds_toArray, List.set_cons_zero, List.set_cons_succ]
        refine eqTake (i := 8) (v := ?vb8) rfl rfl (by kernel_rfl) (by kernel_rfl) (by kernel_rfl) (fun _ _ _ h => h) (Or.inl ⟨by rfl, ?hyb8⟩) (by assumption) ?restb8
        case hyb8 => (intro W hSw; (try dsimp only at hSw); go_simp; try with_reducible rfl)
        try simp only [Act.put, List.setIfInBounds_toArray, List.set_cons_zero, List.set_cons_succ]
        refine eqTake (i := 9) (v := ?vb9) rfl rfl (by kernel_rfl) (by kernel_rfl) (by kernel_rfl) (fun _ _ _ h => h) (Or.inl ⟨by rfl, ?hyb9⟩) (by assumption) ?restb9
        case hyb9 => (intro W hSw; (try dsimp only at hSw); go_simp; try with_reducible rfl)
        try simp only [Act.put, List.setIfInBounds_toArray, List.set_cons_zero, List.set_cons_succ]
        refine eqTake (i := 10) (v := ?vb10) rfl rfl (by kernel_rfl) (by kernel_rfl) (by kernel_rfl) (fun _ _ _ h => h) (Or.inl ⟨by rfl, ?hyb10⟩) (by assumption) ?restb10
        case hyb10 => (intro W hSw; (try dsimp only at hSw); go_simp; try with_reducible rfl)
        try simp only [Act.put, List.setIfInBounds_toArray, List.set_cons_zero, List.set_cons_succ]
        refine eqTake (i := 11) (v := ?vb11) rfl rfl (by kernel_rfl) (by kernel_rfl) (by kernel_rfl) (fun _ _ _ h => h) (Or.inl ⟨by rfl, ?hyb11⟩) (by assumption) ?restb11
        case hyb11 => (intro W hSw; (try dsimp only at hSw); go_simp; try with_reducible rfl)
        try simp only [Act.put, List.setIfInBounds_toArray, List.set_cons_zero, List.set_cons_succ]
        refine eqTake (i := 12) rfl rfl (by kernel_rfl) (by kernel_rfl) (by kernel_rfl) (fun _ _ _ h => h) (Or.inr ⟨by rfl, rfl⟩) (by assumption) ?_
        try simp only [Act.put, List.setIfInBounds_toArray, List.set_cons_zero, List.set_cons_succ]
        refine eqTake (i := 13) rfl rfl (by kernel_rfl) (by kernel_rfl) (by kernel_rfl) (fun _ _ _ h => h) (Or.inr ⟨by rfl, rfl⟩) (by assumption) ?_
        try simp only [Act.put, List.setIfInBounds_toArray, List.set_cons_zero, List.set_cons_succ]
        refine eqTake (i := 14) rfl rfl (by kernel_rfl) (by kernel_rfl) (by kernel_rfl) (fun _ _ _ h => h) (Or.inr ⟨by rfl, rfl⟩) (by assumption) ?_
        try simp only [Act.put, List.setIfInBounds_toArray, List.set_cons_zero, List.set_cons_succ]
        refine eqTake (i := 15) rfl rfl (by kernel_rfl) (by kernel_rfl) (by kernel_rfl) (fun _ _ _ h => h) (Or.inr ⟨by rfl, rfl⟩) (by assumption) ?_
        try simp only [Act.put, List.setIfInBounds_toArray, List.set_cons_zero, List.set_cons_succ]
        refine eqTake (i := 16) rfl rfl (by kernel_rfl) (by kernel_rfl) (by kernel_rfl) (fun _ _ _ h => h) (Or.inr ⟨by rfl, rfl⟩) (by assumption) ?_
        try simp only [Act.put, List.setIfInBounds_toArray, List.set_cons_zero, List.set_cons_succ]
        refine eqTake (i := 17) rfl rfl (by kernel_rfl) (by kernel_rfl) (by kernel_rfl) (fun _ _ _ h => h) (Or.inr ⟨by rfl, rfl⟩) (by assumption) ?_
        try simp only [Act.put, List.setIfInBounds_toArray, List.set_cons_zero, List.set_cons_succ]
        refine eqTake (i := 18) rfl rfl (by kernel_rfl) (by kernel_rfl) (by kernel_rfl) (fun _ _ _ h => h) (Or.inr ⟨by rfl, rfl⟩) (by assumption) ?_
        try simp only [Act.put, List.setIfInBounds_toArray, List.set_cons_zero, List.set_cons_succ]
        refine eqTake (i := 19) (v := ?vb19) rfl rfl (by kernel_rfl) (by kernel_rfl) (by kernel_rfl) (fun _ _ _ h => h) (Or.inl ⟨by rfl, ?hyb19⟩) (by assumption) ?restb19
        case hyb19 => (intro W hSw; (try dsimp only at hSw); go_simp; try with_reducible rfl)
        try simp only [Act.put, List.setIfInBounds_toArray, List.set_cons_zero, List.set_cons_succ]
        refine eqTake (i := 20) (v := ?vb20) rfl rfl (by kernel_rfl) (by kernel_rfl) (by kernel_rfl) (fun _ _ _ h => h) (Or.inl ⟨by rfl, ?hyb20⟩) (by assumption) ?restb20
        case hyb20 => (intro W hSw; (try dsimp only at hSw); go_simp; try with_reducible rfl)
        try simp only [Act.put, List.setIfInBounds_toArray, List.set_cons_zero, List.set_cons_succ]
        refine wpAnyH_done (by kernel_rfl) ?_ _
        all_goals go_wp2
        all_goals go_ret
        all_goals exact ⟨by first | rfl | (rw [HRES.out]; rfl) | (rw [HRES.out]; simp; done), below_then HBW.out.drew hb3⟩
      have p1 : ((if procs < (A24 : Int) then (A24 : Int) else procs) ≤ 200) = True := by rw [eq_iff_iff]; refine ⟨fun _ => trivial, fun _ => ?_⟩; split <;> omega
      by_cases hL : max labels (A19 : Int) ≤ 20000
      · replace HRES : Hid (R = true) := by show _ = _; rw [HRES.out]; simp [hA, dl2, hB, hP, hL]
        have p2 : ((if labels < (A19 : Int) then (A19 : Int) else labels) ≤ 20000) = True := by rw [eq_iff_iff]; refine ⟨fun _ => trivial, fun _ => ?_⟩; split <;> omega
        go_wp2
        refine wp_region_held_drew (S := (fun w' => w'.cell? ⟨w.heap.size, 2, none⟩ = some (.slice oa ol oc) ∧ w'.cell? ⟨w.heap.size, 4, none⟩ = some (.int .i64 procs) ∧ w'.cell? ⟨w.heap.size, 5, none⟩ = some (.int .i64 labels))) (by kernel_rfl) ?_ (fun hHeld => ?_)
        · go_keep
        refine eqTake (i := 0) (v := ?vc0) rfl rfl (by kernel_rfl) (by kernel_rfl) (by kernel_rfl) (fun _ _ _ h => h) (Or.inl ⟨by rfl, ?hyc0⟩) (by assumption) ?restc0
        case hyc0 => (intro W hSw; (try dsimp only at hSw); go_simp; try with_reducible rfl)
        try simp only [Act.put, List.setIfInBounds_toArray, List.set_cons_zero, List.set_cons_succ]
        refine eqTake (i := 1) (v := ?vc1) rfl rfl (by kernel_rfl) (by kernel_rfl) (by kernel_rfl) (fun _ _ _ h => h) (Or.inl ⟨by rfl, ?hyc1⟩) (by assumption) ?restc1
        case hyc1 => (intro W hSw; (try dsimp only at hSw); go_simp; try with_reducible rfl)
        try simp only [Act.put, List.setIfInBounds_toArray, List.set_cons_zero, List.set_cons_succ]
        refine eqTake (i := 2) (v := ?vc2) rfl rfl (by kernel_rfl) (by kernel_rfl) (by kernel_rfl) (fun _ _ _ h => h) (Or.inl ⟨by rfl, ?hyc2⟩) (by assumption) ?restc2
        case hyc2 => (intro W hSw; (try dsimp only at hSw); go_simp; try with_reducible rfl)
        try simp only [Act.put, List.setIfInBounds_toArray, List.set_cons_zero, List.set_cons_succ]
        refine eqTake (i := 3) (v := ?vc3) rfl rfl (by kernel_rfl) (by kernel_rfl) (by kernel_rfl) (fun _ _ _ h => h) (Or.inl ⟨by rfl, ?hyc3⟩) (by assumption) ?restc3
        case hyc3 => (intro W hSw; (try dsimp only at hSw); go_simp; try with_reducible rfl)
        try simp only [Act.put, List.setIfInBounds_toArray, List.set_cons_zero, List.set_cons_succ]
        refine eqTake (i := 4) (v := ?vc4) rfl rfl (by kernel_rfl) (by kernel_rfl) (by kernel_rfl) (fun _ _ _ h => h) (Or.inl ⟨by rfl, ?hyc4⟩) (by assumption) ?restc4
        case hyc4 => (intro W hSw; (try dsimp only at hSw); go_simp; try with_reducible rfl)
        try simp only [Act.put, List.setIfInBounds_toArray, List.set_cons_zero, List.set_cons_succ]
        refine eqTake (i := 5) (v := ?vc5) rfl rfl (by kernel_rfl) (by kernel_rfl) (by kernel_rfl) (fun _ _ _ h => h) (Or.inl ⟨by rfl, ?hyc5⟩) (by assumption) ?restc5
        case hyc5 => (intro W hSw; (try dsimp only at hSw); go_simp; try with_reducible rfl)
        try simp only [Act.put, List.setIfInBounds_toArray, List.set_cons_zero, List.set_cons_succ]
        refine eqTake (i := 6) (v := ?vc6) rfl rfl (by kernel_rfl) (by kernel_rfl) (by kernel_rfl) (fun _ _ _ h => h) (Or.inl ⟨by rfl, ?hyc6⟩) (by assumption) ?restc6
        case hyc6 => (intro W hSw; (try dsimp only at hSw); go_simp; try with_reducible rfl)
        try simp only [Act.put, List.setIfInBounds_toArray, List.set_cons_zero, List.set_cons_succ]
        refine wpAnyH_ready (rs := [7]) (by kernel_rfl) (by simp) ?_
        refine AllReadyH.cons rfl (fun K hK => ?_) AllReadyH.nil
        go_simp
        go_at_call 21
        refine (HC1.out _ (HR.out _ (by exact Below.refl _ _ |>.drew))).mono ?_
        rintro e w3 ⟨rfl, hb3⟩
        refine hK.out _ _ ?_ (fun hHeld => ?_)
        · (try dsimp only at hHeld ⊢); go_split_ands; refine ⟨?_, ?_, ?_⟩ <;> exact (hb3.cell (World.block_lt_of_cell? _ _ (by assumption))).trans (by assumption)
        clear hK K
        try simp only [Act.put, List.setIfInBounds_toArray, List.set_cons_zero, List.set_cons_succ]
        refine eqTake (i := 8) (v := ?vc8) rfl rfl (by kernel_rfl) (by kernel_rfl) (by kernel_rfl) (fun _ _ _ h => h) (Or.inl ⟨by rfl, ?hyc8⟩) (by assumption) ?restc8
        case hyc8 => (intro W hSw; (try dsimp only at hSw); go_simp; try with_reducible rfl)
        try simp only [Act.put, List.setIfInBounds_toArray, List.set_cons_zero, List.set_cons_succ]
        refine eqTake (i := 9) (v := ?vc9) rfl rfl (by kernel_rfl) (by kernel_rfl) (by kernel_rfl) (fun _ _ _ h => h) (Or.inl ⟨by rfl, ?hyc9⟩) (by assumption) ?restc9
        case hyc9 => (intro W hSw; (try dsimp only at hSw); go_simp; try with_reducible rfl)
        try simp only [Act.put, List.setIfInBounds_toArray, List.set_cons_zero, List.set_cons_succ]
        refine eqTake (i := 10) (v := ?vc10) rfl rfl (by kernel_rfl) (by kernel_rfl) (by kernel_rfl) (fun _ _ _ h => h) (Or.inl ⟨by rfl, ?hyc10⟩) (by assumption) ?restc10
        case hyc10 => (intro W hSw; (try dsimp only at hSw); go_simp; try with_reducible rfl)
        try simp only [Act.put, List.setIfInBounds_toArray, List.set_cons_zero, List.set_cons_succ]
        refine eqTake (i := 11) (v := ?vc11) rfl rfl (by kernel_rfl) (by kernel_rfl) (by kernel_rfl) (fun _ _ _ h => h) (Or.inl ⟨by rfl, ?hyc11⟩) (by assumption) ?restc11
        case hyc11 => (intro W hSw; (try dsimp only at hSw); go_simp; try with_reducible rfl)
        try simp only [Act.put, List.setIfInBounds_toArray, List.set_cons_zero, List.set_cons_succ]
        refine eqTake (i := 12) (v := ?vc12) rfl rfl (by kernel_rfl) (by kernel_rfl) (by kernel_rfl) (fun _ _ _ h => h) (Or.inl ⟨by rfl, ?hyc12⟩) (by assumption) ?restc12
        case hyc12 => (intro W hSw; (try dsimp only at hSw); go_simp; try with_reducible rfl)
        try simp only [Act.put, List.setIfInBounds_toArray, List.set_cons_zero, List.set_cons_succ]
        refine eqTake (i := 13) (v := ?vc13) rfl rfl (by kernel_rfl) (by kernel_rfl) (by kernel_rfl) (fun _ _ _ h => h) (Or.inl ⟨by rfl, ?hyc13⟩) (by assumption) ?restc13
        case hyc13 => (intro W hSw; (try dsimp only at hSw); go_simp; try with_reducible rfl)
        try simp only [Act.put, List.setIfInBounds_toArray, List.set_cons_zero, List.set_cons_succ]
        refine eqTake (i := 14) (v := ?vc14) rfl rfl (by kernel_rfl) (by kernel_rfl) (by kernel_rfl) (fun _ _ _ h => h) (Or.inl ⟨by rfl, ?hyc14⟩) (by assumption) ?restc14
        case hyc14 => (intro W hSw; (try dsimp only at hSw); go_simp; try with_reducible rfl)
        try simp only [Act.put, List.setIfInBounds_toArray, List.set_cons_zero, List.set_cons_succ]
        refine eqTake (i := 15) (v := ?vc15) rfl rfl (by kernel_rfl) (by kernel_rfl) (by kernel_rfl) (fun _ _ _ h => h) (Or.inl ⟨by rfl, ?hyc15⟩) (by assumption) ?restc15
        case hyc15 => (intro W hSw; (try dsimp only at hSw); go_simp; try with_reducible rfl)
        try simp only [Act.put, List.setIfInBounds_toArray, List.set_cons_zero, List.set_cons_succ]
        refine wpAnyH_ready (rs := [16]) (by kernel_rfl) (by simp) ?_
        refine AllReadyH.cons rfl (fun K hK => ?_) AllReadyH.nil
        go_simp
        go_at_call 21
        refine (HC2.out _ (HR.out _ (below_then (Below.refl _ _).drew hb3))).mono ?_
        rintro e w4 ⟨rfl, hb4⟩
        refine hK.out _ _ ?_ (fun hHeld => ?_)
        · (try dsimp only at hHeld ⊢); go_split_ands; refine ⟨?_, ?_, ?_⟩ <;> exact (hb4.cell (World.block_lt_of_cell? _ _ (by assumption))).trans (by assumption)
        clear hK K
        try simp only [Act.put, List.setIfInBounds_toArray, List.set_cons_zero, List.set_cons_succ]
        refine eqTake (i := 17) (v := ?vc17) rfl rfl (by kernel_rfl) (by kernel_rfl) (by kernel_rfl) (fun _ _ _ h => h) (Or.inl ⟨by rfl, ?hyc17⟩) (by assumption) ?restc17
        case hyc17 => (intro W hSw; (try dsimp only at hSw); go_simp; try with_reducible rfl)
        try simp only [Act.put, List.setIfInBounds_toArray, List.set_cons_zero, List.set_cons_succ]
        refine eqTake (i := 18) (v := ?vc18) rfl rfl (by kernel_rfl) (by kernel_rfl) (by kernel_rfl) (fun _ _ _ h => h) (Or.inl ⟨by rfl, ?hyc18⟩) (by assumption) ?restc18
        case hyc18 => (intro W hSw; (try dsimp only at hSw); go_simp; try with_reducible rfl)
        try simp only [Act.put, List.setIfInBounds_toArray, List.set_cons_zero, List.set_cons_succ]
        refine eqTake (i := 19) (v := ?vc19) rfl rfl (by kernel_rfl) (by kernel_rfl) (by kernel_rfl) (fun _ _ _ h => h) (Or.inl ⟨by rfl, ?hyc19⟩) (by assumption) ?restc19
        case hyc19 => (intro W hSw; (try dsimp only at hSw); go_simp; try with_reducible rfl)
        try simp only [Act.put, List.setIfInBounds_toArray, List.set_cons_zero, List.set_cons_succ]
        refine eqTake (i := 20) (v := ?vc20) rfl rfl (by kernel_rfl) (by kernel_rfl) (by kernel_rfl) (fun _ _ _ h => h) (Or.inl ⟨by rfl, ?hyc20⟩) (by assumption) ?restc20
        case hyc20 => (intro W hSw; (try dsimp only at hSw); go_simp; try with_reducible rfl)
        try simp only [Act.put, List.setIfInBounds_toArray, List.set_cons_zero, List.set_cons_succ]
        refine wpAnyH_done (by kernel_rfl) ?_ _
        all_goals go_wp2
        all_goals go_ret
        all_goals exact ⟨by first | rfl | (rw [HRES.out]; rfl) | (rw [HRES.out]; simp; done), below_then (below_then HBW.out.drew hb3) hb4⟩
      · replace HRES : Hid (R = false) := by show _ = _; rw [HRES.out]; simp [hL]
        have p2 : ((if labels < (A19 : Int) then (A19 : Int) else labels) ≤ 20000) = False := by rw [eq_iff_iff]; refine ⟨fun h => ?_, False.elim⟩; split at h <;> omega
        go_wp2
        refine wp_region_held_drew (S := (fun w' => w'.cell? ⟨w.heap.size, 2, none⟩ = some (.slice oa ol oc) ∧ w'.cell? ⟨w.heap.size, 4, none⟩ = some (.int .i64 procs) ∧ w'.cell? ⟨w.heap.size, 5, none⟩ = some (.int .i64 labels))) (by kernel_rfl) ?_ (fun hHeld => ?_)
        · go_keep
        refine eqTake (i := 0) (v := ?vd0) rfl rfl (by kernel_rfl) (by kernel_rfl) (by kernel_rfl) (fun _ _ _ h => h) (Or.inl ⟨by rfl, ?hyd0⟩) (by assumption) ?restd0
        case hyd0 => (intro W hSw; (try dsimp only at hSw); go_simp; try with_reducible rfl)
        try simp only [Act.put, List.setIfInBounds_toArray, List.set_cons_zero, List.set_cons_succ]
        refine eqTake (i := 1) (v := ?vd1) rfl rfl (by kernel_rfl) (by kernel_rfl) (by kernel_rfl) (fun _ _ _ h => h) (Or.inl ⟨by rfl, ?hyd1⟩) (by assumption) ?restd1
        case hyd1 => (intro W hSw; (try dsimp only at hSw); go_simp; try with_reducible rfl)
        try simp only [Act.put, List.setIfInBounds_toArray, List.set_cons_zero, List.set_cons_succ]
        refine eqTake (i := 2) (v := ?vd2) rfl rfl (by kernel_rfl) (by kernel_rfl) (by kernel_rfl) (fun _ _ _ h => h) (Or.inl ⟨by rfl, ?hyd2⟩) (by assumption) ?restd2
        case hyd2 => (intro W hSw; (try dsimp only at hSw); go_simp; try with_reducible rfl)
        try simp only [Act.put, List.setIfInBounds_toArray, List.set_cons_zero, List.set_cons_succ]
        refine eqTake (i := 3) (v := ?vd3) rfl rfl (by kernel_rfl) (by kernel_rfl) (by kernel_rfl) (fun _ _ _ h => h) (Or.inl ⟨by rfl, ?hyd3⟩) (by assumption) ?restd3
        case hyd3 => (intro W hSw; (try dsimp only at hSw); go_simp; try with_reducible rfl)
        try simp only [Act.put, List.setIfInBounds_toArray, List.set_cons_zero, List.set_cons_succ]
        refine eqTake (i := 4) (v := ?vd4) rfl rfl (by kernel_rfl) (by kernel_rfl) (by kernel_rfl) (fun _ _ _ h => h) (Or.inl ⟨by rfl, ?hyd4⟩) (by assumption) ?restd4
        case hyd4 => (intro W hSw; (try dsimp only at hSw); go_simp; try with_reducible rfl)
        try simp only [Act.put, List.setIfInBounds_toArray, List.set_cons_zero, List.set_cons_succ]
        refine eqTake (i := 5) (v := ?vd5) rfl rfl (by kernel_rfl) (by kernel_rfl) (by kernel_rfl) (fun _ _ _ h => h) (Or.inl ⟨by rfl, ?hyd5⟩) (by assumption) ?restd5
        case hyd5 => (intro W hSw; (try dsimp only at hSw); go_simp; try with_reducible rfl)
        try simp only [Act.put, List.setIfInBounds_toArray, List.set_cons_zero, List.set_cons_succ]
        refine eqTake (i := 6) (v := ?vd6) rfl rfl (by kernel_rfl) (by kernel_rfl) (by kernel_rfl) (fun _ _ _ h => h) (Or.inl ⟨by rfl, ?hyd6⟩) (by assumption) ?restd6
        case hyd6 => (intro W hSw; (try dsimp only at hSw); go_simp; try with_reducible rfl)
        try simp only [Act.put, List.setIfInBounds_toArray, List.set_cons_zero, List.set_cons_succ]
        refine wpAnyH_ready (rs := [7]) (by kernel_rfl) (by simp) ?_
        refine AllReadyH.cons rfl (fun K hK => ?_) AllReadyH.nil
        go_simp
        go_at_call 21
        refine (HC1.out _ (HR.out _ (by exact Below.refl _ _ |>.drew))).mono ?_
        rintro e w3 ⟨rfl, hb3⟩
        refine hK.out _ _ ?_ (fun hHeld => ?_)
        · (try dsimp only at hHeld ⊢); go_split_ands; refine ⟨?_, ?_, ?_⟩ <;> exact (hb3.cell (World.block_lt_of_cell? _ _ (by assumption))).trans (by assumption)
        clear hK K
        try simp only [Act.put, List.setIfInBounds_toArray, List.set_cons_zero, List.set_cons_succ]
        refine eqTake (i := 8) (v := ?vd8) rfl rfl (by kernel_rfl) (by kernel_rfl) (by kernel_rfl) (fun _ _ _ h => h) (Or.inl ⟨by rfl, ?hyd8⟩) (by assumption) ?restd8
        case hyd8 => (intro W hSw; (try dsimp only at hSw); go_simp; try with_reducible rfl)
        try simp only [Act.put, List.setIfInBounds_toArray, List.set_cons_zero, List.set_cons_succ]
        refine eqTake (i := 9) (v := ?vd9) rfl rfl (by kernel_rfl) (by kernel_rfl) (by kernel_rfl) (fun _ _ _ h => h) (Or.inl ⟨by rfl, ?hyd9⟩) (by assumption) ?restd9
        case hyd9 => (intro W hSw; (try dsimp only at hSw); go_simp; try with_reducible rfl)
        try simp only [Act.put, List.setIfInBounds_toArray, List.set_cons_zero, List.set_cons_succ]
        refine eqTake (i := 10) (v := ?vd10) rfl rfl (by kernel_rfl) (by kernel_rfl) (by kernel_rfl) (fun _ _ _ h => h) (Or.inl ⟨by rfl, ?hyd10⟩) (by assumption) ?restd10
        case hyd10 => (intro W hSw; (try dsimp only at hSw); go_simp; try with_reducible rfl)
        try simp only [Act.put, List.setIfInBounds_toArray, List.set_cons_zero, List.set_cons_succ]
        refine eqTake (i := 11) (v := ?vd11) rfl rfl (by kernel_rfl) (by kernel_rfl) (by kernel_rfl) (fun _ _ _ h => h) (Or.inl ⟨by rfl, ?hyd11⟩) (by assumption) ?restd11
        case hyd11 => (intro W hSw; (try dsimp only at hSw); go_simp; try with_reducible rfl)
        try simp only [Act.put, List.setIfInBounds_toArray, List.set_cons_zero, List.set_cons_succ]
        refine eqTake (i := 12) (v := ?vd12) rfl rfl (by kernel_rfl) (by kernel_rfl) (by kernel_rfl) (fun _ _ _ h => h) (Or.inl ⟨by rfl, ?hyd12⟩) (by assumption) ?restd12
        case hyd12 => (intro W hSw; (try dsimp only at hSw); go_simp; try with_reducible rfl)
        try simp only [Act.put, List.setIfInBounds_toArray, List.set_cons_zero, List.set_cons_succ]
        refine eqTake (i := 13) (v := ?vd13) rfl rfl (by kernel_rfl) (by kernel_rfl) (by kernel_rfl) (fun _ _ _ h => h) (Or.inl ⟨by rfl, ?hyd13⟩) (by assumption) ?restd13
        case hyd13 => (intro W hSw; (try dsimp only at hSw); go_simp; try with_reducible rfl)
        try simp only [Act.put, List.setIfInBounds_toArray, List.set_cons_zero, List.set_cons_succ]
        refine eqTake (i := 14) (v := ?vd14) rfl rfl (by kernel_rfl) (by kernel_rfl) (by kernel_rfl) (fun _ _ _ h => h) (Or.inl ⟨by rfl, ?hyd14⟩) (by assumption) ?restd14
        case hyd14 => (intro W hSw; (try dsimp only at hSw); go_simp; try with_reducible rfl)
        try simp only [Act.put, List.setIfInBounds_toArray, List.set_cons_zero, List.set_cons_succ]
        refine eqTake (i := 15) (v := ?vd15) rfl rfl (by kernel_rfl) (by kernel_rfl) (by kernel_rfl) (fun _ _ _ h => h) (Or.inl ⟨by rfl, ?hyd15⟩) (by assumption) ?restd15
        case hyd15 => (intro W hSw; (try dsimp only at hSw); go_simp; try with_reducible rfl)
        try simp only [Act.put, List.setIfInBounds_toArray, List.set_cons_zero, List.set_cons_succ]
        refine wpAnyH_ready (rs := [16]) (by kernel_rfl) (by simp) ?_
        refine AllReadyH.cons rfl (fun K hK => ?_) AllReadyH.nil
        go_simp
        go_at_call 21
        refine (HC2.out _ (HR.out _ (below_then (Below.refl _ _).drew hb3))).mono ?_
        rintro e w4 ⟨rfl, hb4⟩
        refine hK.out _ _ ?_ (fun hHeld => ?_)
        · (try dsimp only at hHeld ⊢); go_split_ands; refine ⟨?_, ?_, ?_⟩ <;> exact (hb4.cell (World.block_lt_of_cell? _ _ (by assumption))).trans (by assumption)
        clear hK K
        try simp only [Act.put, List.setIfInBounds_toArray, List.set_cons_zero, List.set_cons_succ]
        refine eqTake (i := 17) (v := ?vd17) rfl rfl (by kernel_rfl) (by kernel_rfl) (by kernel_rfl) (fun _ _ _ h => h) (Or.inl ⟨by rfl, ?hyd17⟩) (by assumption) ?restd17
        case hyd17 => (intro W hSw; (try dsimp only at hSw); go_simp; try with_reducible rfl)
        try simp only [Act.put, List.setIfInBounds_toArray, List.set_cons_zero, List.set_cons_succ]
        refine eqTake (i := 18) (v := ?vd18) rfl rfl (by kernel_rfl) (by kernel_rfl) (by kernel_rfl) (fun _ _ _ h => h) (Or.inl ⟨by rfl, ?hyd18⟩) (by assumption) ?restd18
        case hyd18 => (intro W hSw; (try dsimp only at hSw); go_simp; try with_reducible rfl)
        try simp only [Act.put, List.setIfInBounds_toArray, List.set_cons_zero, List.set_cons_succ]
        refine eqTake (i := 19) (v := ?vd19) rfl rfl (by kernel_rfl) (by kernel_rfl) (by kernel_rfl) (fun _ _ _ h => h) (Or.inl ⟨by rfl, ?hyd19⟩) (by assumption) ?restd19
        case hyd19 => (intro W hSw; (try dsimp only at hSw); go_simp; try with_reducible rfl)
        try simp only [Act.put, List.setIfInBounds_toArray, List.set_cons_zero, List.set_cons_succ]
        refine eqTake (i := 20) (v := ?vd20) rfl rfl (by kernel_rfl) (by kernel_rfl) (by kernel_rfl) (fun _ _ _ h => h) (Or.inl ⟨by rfl, ?hyd20⟩) (by assumption) ?restd20
        case hyd20 => (intro W hSw; (try dsimp only at hSw); go_simp; try with_reducible rfl)
        try simp only [Act.put, List.setIfInBounds_toArray, List.set_cons_zero, List.set_cons_succ]
        refine wpAnyH_done (by kernel_rfl) ?_ _
        all_goals go_wp2
        all_goals go_ret
        all_goals exact ⟨by first | rfl | (rw [HRES.out]; rfl) | (rw [HRES.out]; simp; done), below_then (below_then HBW.out.drew hb3) hb4⟩
end Go.Proofs.YtfnkafnjpldaoaaDoor
