/- Whether depths are as said, in the document's words. -/
import Derived.Test.YthlakfgpmggceaaDoorOcOr
import Derived.Lib.QuietBelow
namespace Go.Proofs.YthlakfgpmggceaaDoor
open Go.RowKit
set_option linter.unusedVariables false
set_option linter.unusedSimpArgs false
/-- the tables of labels in the block b as a parameter -/
def BoxT (w : World) (b : Nat) (ta : Option Addr) (tl tc : Nat) (qv : Value) : Prop := w.cell? ⟨b, 0, none⟩ = some (.slice ta tl tc) ∧ w.cell? ⟨b, 1, none⟩ = some qv
theorem BoxT.new (w : World) (ta : Option Addr) (tl tc : Nat) (qv : Value) (T : TypeId) : BoxT (w.alloc (.cells #[.slice ta tl tc, qv] T)) w.heap.size ta tl tc qv :=
  ⟨(World.cell?_alloc_at _ _ _ _ rfl).trans rfl, (World.cell?_alloc_at _ _ _ _ rfl).trans rfl⟩
theorem BoxT.keep {w w' : World} {b B : Nat} {ta : Option Addr} {tl tc : Nat} {qv : Value} (h : BoxT w b ta tl tc qv) (hb : Below B w w') (hB : b < B) : BoxT w' b ta tl tc qv :=
  ⟨(hb.cell (p := ⟨b, 0, none⟩) hB).trans h.1, (hb.cell (p := ⟨b, 1, none⟩) hB).trans h.2⟩
theorem BoxT.lt {w : World} {b : Nat} {ta : Option Addr} {tl tc : Nat} {qv : Value} (h : BoxT w b ta tl tc qv) : b < w.heap.size := World.block_lt_of_cell? w _ h.1
theorem numB_enter {nd procs labels n m : Int} (h : OC.numB nd procs labels ⟨24, n, m⟩ = true) : 0 ≤ m ∧ m ≤ 8 := by
  unfold OC.numB at h
  simp [OC.inB] at h
  omega
theorem numB_label {nd procs labels : Int} {o : OC.Op} (h : OC.numB nd procs labels o = true) : OC.label o ≤ labels ∨ OC.label o ≤ 0 := by
  obtain ⟨op, n, m⟩ := o
  unfold OC.label
  unfold OC.numB at h
  dsimp only at *
  by_cases h1 : op = 20 ∨ op = 21 ∨ op = 22 ∨ op = 27 ∨ op = 29
  · rw [if_pos h1]
    rcases h1 with rfl | rfl | rfl | rfl | rfl <;> simp [OC.inB] at h <;> omega
  · rw [if_neg h1]
    by_cases h2 : op = 30
    · subst h2; simp [OC.inB] at h; simp; omega
    · rw [if_neg h2]; exact .inr (Int.le_refl _)
theorem numB_result {nd procs labels n m : Int} (h : OC.numB nd procs labels ⟨27, n, m⟩ = true) : 1 ≤ n ∧ n ≤ labels := by
  unfold OC.numB at h
  simp [OC.inB] at h
  omega
theorem named_at {t q : List Int} : ∀ {ops : List OC.Op} {ps : List Int}, OC.namedB t q ops ps = true → ops.length = ps.length → ∀ o ∈ ops, 0 < OC.label o → 0 ≤ t.getD (OC.label o).toNat (-1)
  | [], _, _, _, o, ho, _ => by simp at ho
  | x :: r, [], _, hl, _, _, _ => by simp at hl
  | x :: r, p :: ps, h, hl, o, ho, h0 => by
    simp only [OC.namedB, Bool.and_eq_true, Bool.or_eq_true, decide_eq_true_iff] at h
    rcases List.mem_cons.1 ho with rfl | ho
    · rcases h.1 with h1 | h1
      · omega
      · exact h1.1
    · exact named_at h.2 (by simpa using hl) o ho h0
theorem needs_bd (o : OC.Op) : 0 ≤ OC.needs o ∧ OC.needs o ≤ 3 := by unfold OC.needs; split <;> (try split) <;> (try split) <;> omega
theorem Rd.get {k : IntKind} {w : World} {a : Option Addr} {n cap : Nat} {xs : List Int} (h : Rd k w (.slice a n cap) xs) {i : Nat} (hi : i < n) : n = xs.length ∧ ∃ b off, a = some ⟨b, off, none⟩ ∧ w.cell? ⟨b, off + i, none⟩ = some (.int k (xs.getD i 0)) := by
  obtain ⟨a', cap', hv, hl, h⟩ := h
  simp at hv
  obtain ⟨rfl, rfl, rfl⟩ := hv
  rcases h with rfl | ⟨b, off, rfl, hat⟩
  · simp at hi
  · exact ⟨rfl, b, off, rfl, hat i hi⟩
theorem getD_two {xs : List Int} {i : Nat} (a b : Int) (h : i < xs.length) : xs.getD i a = xs.getD i b := by rw [getD_at h, getD_at h]
theorem order_first {c : OC.Code} (h : OC.orderOk c = true) : 0 < c.ops.length → (c.ops.getD 0 OC.oz).op = 24 := by
  intro hl
  unfold OC.orderOk at h
  cases hc : c.ops with
  | nil => rw [hc] at hl; simp at hl
  | cons o r =>
    rw [hc, decide_eq_true_iff, OC.orderB] at h
    by_cases h24 : o.op = 24
    · simpa using h24
    · simp [h24] at h
set_option maxRecDepth 100000 in
set_option maxHeartbeats 16000000 in
theorem deepR_c (c : OC.Code) (da oa ga : Option Addr) (dl dc ol oc gl gc : Nat) (t : List Int) (ta : Option Addr) (tc : Nat) (qv : Value) (w : World) (hc : CodeIn w c da oa ga dl dc ol oc gl gc) (hs : Small c) (hn : NumOk c)
    (hf : 0 < c.ops.length → (c.ops.getD 0 OC.oz).op = 24) (ht : Rd .i64 w (.slice ta t.length tc) t) (hlt : (t.length : Int) = c.labels + 1) (hl2 : t.length ≤ 40000) (hna : ∀ o ∈ c.ops, 0 < OC.label o → 0 ≤ t.getD (OC.label o).toNat (-1)) :
    Calls Tryd.prog 47 #[codeV c da oa ga dl dc ol oc gl gc, .agg #[.slice ta t.length tc, qv]] w fun e w' => e = .returned (.bool (OC.deepB c.ops t 0 false OC.oz c.ops)) ∧ Below w.heap.size w w' := by
  obtain ⟨hol, hoc, _⟩ := hc.ops.len
  have HC := Lib.hid hc
  have HO := Lib.hid hol
  have hol2 := hs.ops
  rw [← hol] at hol2
  have HN : Hid (∀ o ∈ c.ops, _) := fun o ho => numB_bd (hn o ho)
  have HN2 := Lib.hid hn
  have HF := Lib.hid hf
  have HT := Lib.hid ht
  have HNA := Lib.hid hna
  have HTL := Lib.hid hlt
  obtain ⟨tl, htl⟩ : ∃ tl, t.length = tl := ⟨_, rfl⟩
  have HTL2 := Lib.hid htl
  rw [htl] at hl2 ⊢ HT HTL
  obtain ⟨name, data, ops, globals, procs, labels⟩ := c
  dsimp only at *
  clear hol hc hs hn hf ht hlt hna htl
  go_enter Tryd.func47, Tryd.ntmps47
  go_wp2
  go_loopw [5, 6, 7] (fun vd vf i wr => ∃ (k : Nat) (d : Int) (fr : Bool) (pv : OC.Op), k ≤ ol ∧ i = .int .i64 k ∧ vd = .int .i64 d ∧ vf = .bool fr ∧ 0 ≤ d ∧ d ≤ 4000 ∧ (k = 0 ∨ pv = ops.getD (k - 1) OC.oz) ∧ Hid (OC.deepB ops t 0 false OC.oz ops = OC.deepB ops t d fr pv (ops.drop k)) ∧ BoxC wr w.heap.size ⟨name, data, ops, globals, procs, labels⟩ da oa ga dl dc ol oc gl gc ∧ BoxT wr (w.heap.size + 1) ta tl tc qv ∧ Below w.heap.size w wr) (fun _ _ i _ => ol - (intOf i).toNat)
  case atStart => exact ⟨0, 0, false, OC.oz, Nat.zero_le _, rfl, rfl, rfl, by omega, by omega, .inl rfl, (rfl : OC.deepB ops t 0 false OC.oz ops = _), (BoxC.new w ⟨name, data, ops, globals, procs, labels⟩ _ _ _ _ _ _ _ _ _ _).keep (below_alloc _ _) (by simp), by have h := BoxT.new (w.alloc (.cells #[.string ⟨name.toArray⟩, .slice da dl dc, .slice oa ol oc, .slice ga gl gc, .int .i64 procs, .int .i64 labels] 26)) ta tl tc qv 57; simpa using h, below_then (below_alloc _ _) (below_alloc _ _)⟩
  case round =>
    obtain ⟨k, d, fr, pv, hk, rfl, rfl, rfl, hd1, hd2, hpv, hq, hbox, hbt, hbl⟩ := hrel
    have HBOX := Lib.hid hbox
    have HBT := Lib.hid hbt
    obtain ⟨c0, c1, c2, c3, c4, c5⟩ := hbox
    obtain ⟨t0, t1⟩ := hbt
    by_cases hlt : k < ol
    · have HOI := Lib.hid (HC.out.keep hbl).ops
      obtain ⟨hx1, b, off, rfl, h0, h1, h2⟩ := HOI.out.get hlt
      clear hx1
      have hkl : k < ops.length := by rw [← HO.out]; exact hlt
      have hd := dropAt (d := OC.oz) hkl
      have hmem := getD_map_range ops OC.oz hkl
      have hbd := HN.out _ hmem
      have hnb := HN2.out _ hmem
      have hna := HNA.out _ hmem
      have hpn : Hid (ops.getD (k + 1 - 1) OC.oz = ops.getD k OC.oz) := rfl
      have HP0 := Lib.hid (fun (e : k = 0) => show (ops.getD k OC.oz).op = 24 by subst e; exact HF.out (by omega))
      generalize ops.getD k OC.oz = x at *
      obtain ⟨op, n, m⟩ := x
      dsimp only at h0 h1 h2 hbd
      obtain ⟨b1, b2, b3, b4, b5, b6⟩ := hbd
      have k1 : (k : Int) < (ol : Int) := by omega
      have hwz := HBT.out.lt
      have kz := hbl.size
      have hbb : b < wr.heap.size := World.block_lt_of_cell? _ _ h0
      have hbb1 : b < wr.heap.size + 1 := by omega
      have hwz1 : w.heap.size < wr.heap.size + 1 := by omega
      have hwz2 : w.heap.size + 1 < wr.heap.size + 1 := by omega
      have hwz3 : w.heap.size < wr.heap.size := by omega
      have x1 : (-2147483648 : Int) ≤ d := by omega
      have x2 : d ≤ (2147483647 : Int) := by omega
      by_cases h24 : op = 24
      · subst h24
        have hm := numB_enter hnb
        obtain ⟨hm1, hm2⟩ := hm
        clear hnb hna hmem HP0
        have hnext : Hid (OC.deepB ops t 0 false OC.oz ops = OC.deepB ops t (2 + m) (true) (⟨24, n, m⟩) (ops.drop (k + 1))) := by
          show _ = _
          rw [hq.out, hd, OC.deepB]
          simp
        clear hd hq hpv
        go_wp2_with (first
          | (go_at_call 35; refine (HAF.out _).mono ?_; rintro e w1 ⟨rfl, hb1⟩; obtain ⟨hcc1, hff1⟩ := bcell hb1; have z1 := hb1.size; have zb1 : b < w1.heap.size := (by first | omega | (simp at z1; omega)); have zw1 : w.heap.size + 1 < w1.heap.size := (by first | omega | (simp at z1; omega)); have zv1 : w.heap.size < w1.heap.size := (by omega); have zo1 : wr.heap.size < w1.heap.size := (by first | omega | (simp at z1; omega)); try have zt1 : tb < w1.heap.size := (by omega))
          | (go_at_call 88; refine (HNE.out _).mono ?_; rintro e w2 ⟨rfl, hb2⟩; obtain ⟨hcc2, hff2⟩ := bcell hb2; have z2 := hb2.size; have zb2 : b < w2.heap.size := (by first | omega | (simp at z2; omega)); have zw2 : w.heap.size + 1 < w2.heap.size := (by first | omega | (simp at z2; omega)); have zv2 : w.heap.size < w2.heap.size := (by omega); have zo2 : wr.heap.size < w2.heap.size := (by first | omega | (simp at z2; omega)); try have zt2 : tb < w2.heap.size := (by omega))
          | (go_at_call 86; refine (HIN.out _).mono ?_; rintro e w9 ⟨rfl, rfl⟩)
          | (go_at_call 89; refine (HLO.out _).mono ?_; rintro e w3 ⟨rfl, hb3⟩; obtain ⟨hcc3, hff3⟩ := bcell hb3; have z3 := hb3.size; have zb3 : b < w3.heap.size := (by first | omega | (simp at z3; omega)); have zw3 : w.heap.size + 1 < w3.heap.size := (by first | omega | (simp at z3; omega)); have zv3 : w.heap.size < w3.heap.size := (by omega); have zo3 : wr.heap.size < w3.heap.size := (by first | omega | (simp at z3; omega)); try have zt3 : tb < w3.heap.size := (by omega))
          | (go_at_call 36; refine (HLA.out _).mono ?_; rintro e w4 ⟨rfl, hb4⟩; obtain ⟨hcc4, hff4⟩ := bcell hb4; have z4 := hb4.size; have zb4 : b < w4.heap.size := (by first | omega | (simp at z4; omega)); have zw4 : w.heap.size + 1 < w4.heap.size := (by first | omega | (simp at z4; omega)); have zv4 : w.heap.size < w4.heap.size := (by omega); have zo4 : wr.heap.size < w4.heap.size := (by first | omega | (simp at z4; omega)); try have zt4 : tb < w4.heap.size := (by omega))
          | (go_at_call 87; refine (HGO.out _).mono ?_; rintro e w5 ⟨rfl, hb5⟩; obtain ⟨hcc5, hff5⟩ := bcell hb5; have z5 := hb5.size; have zb5 : b < w5.heap.size := (by first | omega | (simp at z5; omega)); have zw5 : w.heap.size + 1 < w5.heap.size := (by first | omega | (simp at z5; omega)); have zv5 : w.heap.size < w5.heap.size := (by omega); have zo5 : wr.heap.size < w5.heap.size := (by first | omega | (simp at z5; omega)); try have zt5 : tb < w5.heap.size := (by omega)))
        all_goals go_roundw
        all_goals first | (case rel => exact ⟨k + 1, 2 + m, true, ⟨24, n, m⟩, by omega, by go_num, by first | rfl | go_num, by first | rfl | go_num, by omega, by omega, .inr hpn.out.symm, hnext, HBOX.out.keep (by repeat (first | exact below_alloc _ _ | exact Below.refl _ _ | refine below_drewN ?_ _ | refine below_then ?_ hb5 | refine below_then ?_ hb4 | refine below_then ?_ hb3 | refine below_then ?_ hb2 | refine below_then ?_ hb1)) hwz3, HBT.out.keep (by repeat (first | exact below_alloc _ _ | exact Below.refl _ _ | refine below_drewN ?_ _ | refine below_then ?_ hb5 | refine below_then ?_ hb4 | refine below_then ?_ hb3 | refine below_then ?_ hb2 | refine below_then ?_ hb1)) hwz, below_then hbl (by repeat (first | exact below_alloc _ _ | exact Below.refl _ _ | refine below_drewN ?_ _ | refine below_then ?_ hb5 | refine below_then ?_ hb4 | refine below_then ?_ hb3 | refine below_then ?_ hb2 | refine below_then ?_ hb1))⟩) | (simp [intOf]; omega)
      have e24 : (op == 24) = false := by simpa using h24
      by_cases h18 : op = 18
      · subst h18
        have hk0 : k ≠ 0 := fun e => by have h := HP0.out e; simp at h
        obtain ⟨j, rfl⟩ : ∃ j, k = j + 1 := ⟨k - 1, by omega⟩
        have hj : j < ol := by omega
        obtain ⟨hx1, b', off', e', g0, g1, g2⟩ := HOI.out.get hj
        clear hx1
        simp only [Option.some.injEq, Addr.mk.injEq] at e'
        obtain ⟨rfl, rfl, _⟩ := e'
        have hpv2 : pv = ops.getD j OC.oz := by
          rcases hpv with h | h
          · omega
          · exact h
        rw [← hpv2] at g0 g1 g2
        clear hpv2 hnb hna hmem HP0 h24 hk0
        have hj2 : (j : Int) < (ol : Int) := by omega
        obtain ⟨pop, pn, pm⟩ := pv
        dsimp only at g0
        obtain ⟨A, hA⟩ : ∃ A, OC.after ⟨18, n, m⟩ d = A := ⟨_, rfl⟩
        obtain ⟨N, hN⟩ : ∃ N, OC.needs ⟨18, n, m⟩ = N := ⟨_, rfl⟩
        have hNb := needs_bd ⟨18, n, m⟩
        rw [hN] at hNb
        obtain ⟨hN1, hN2⟩ := hNb
        have HAF : Hid (∀ W, Calls Tryd.prog 35 #[opVal ⟨18, n, m⟩, .int .i64 d] W fun e w' => e = .returned (.int .i64 A) ∧ Below W.heap.size W w') := fun W => by have h := afterR_c ⟨18, n, m⟩ d W b3 b4 b5 b6 x1 x2; rwa [hA] at h
        have HNE : Hid (∀ W, Calls Tryd.prog 88 #[opVal ⟨18, n, m⟩] W fun e w' => e = .returned (.int .i64 N) ∧ Below W.heap.size W w') := fun W => by have h := needsR_c ⟨18, n, m⟩ W; rwa [hN] at h
        by_cases hF1 : d - N < 2
        case pos =>
          by_cases hp19 : pop = 19
          · subst hp19
            have hfail : Hid (OC.deepB ops t 0 false OC.oz ops = false) := by
              show _ = _
              rw [hq.out, hd, OC.deepB]
              simp [hA, hN, hF1]
            clear hd hq hpv hA hN
            go_wp2_with (first
              | (go_at_call 35; refine (HAF.out _).mono ?_; rintro e w1 ⟨rfl, hb1⟩; obtain ⟨hcc1, hff1⟩ := bcell hb1; have z1 := hb1.size; have zb1 : b < w1.heap.size := (by first | omega | (simp at z1; omega)); have zw1 : w.heap.size + 1 < w1.heap.size := (by first | omega | (simp at z1; omega)); have zv1 : w.heap.size < w1.heap.size := (by omega); have zo1 : wr.heap.size < w1.heap.size := (by first | omega | (simp at z1; omega)); try have zt1 : tb < w1.heap.size := (by omega))
              | (go_at_call 88; refine (HNE.out _).mono ?_; rintro e w2 ⟨rfl, hb2⟩; obtain ⟨hcc2, hff2⟩ := bcell hb2; have z2 := hb2.size; have zb2 : b < w2.heap.size := (by first | omega | (simp at z2; omega)); have zw2 : w.heap.size + 1 < w2.heap.size := (by first | omega | (simp at z2; omega)); have zv2 : w.heap.size < w2.heap.size := (by omega); have zo2 : wr.heap.size < w2.heap.size := (by first | omega | (simp at z2; omega)); try have zt2 : tb < w2.heap.size := (by omega))
              | (go_at_call 86; refine (HIN.out _).mono ?_; rintro e w9 ⟨rfl, rfl⟩)
              | (go_at_call 89; refine (HLO.out _).mono ?_; rintro e w3 ⟨rfl, hb3⟩; obtain ⟨hcc3, hff3⟩ := bcell hb3; have z3 := hb3.size; have zb3 : b < w3.heap.size := (by first | omega | (simp at z3; omega)); have zw3 : w.heap.size + 1 < w3.heap.size := (by first | omega | (simp at z3; omega)); have zv3 : w.heap.size < w3.heap.size := (by omega); have zo3 : wr.heap.size < w3.heap.size := (by first | omega | (simp at z3; omega)); try have zt3 : tb < w3.heap.size := (by omega))
              | (go_at_call 36; refine (HLA.out _).mono ?_; rintro e w4 ⟨rfl, hb4⟩; obtain ⟨hcc4, hff4⟩ := bcell hb4; have z4 := hb4.size; have zb4 : b < w4.heap.size := (by first | omega | (simp at z4; omega)); have zw4 : w.heap.size + 1 < w4.heap.size := (by first | omega | (simp at z4; omega)); have zv4 : w.heap.size < w4.heap.size := (by omega); have zo4 : wr.heap.size < w4.heap.size := (by first | omega | (simp at z4; omega)); try have zt4 : tb < w4.heap.size := (by omega))
              | (go_at_call 87; refine (HGO.out _).mono ?_; rintro e w5 ⟨rfl, hb5⟩; obtain ⟨hcc5, hff5⟩ := bcell hb5; have z5 := hb5.size; have zb5 : b < w5.heap.size := (by first | omega | (simp at z5; omega)); have zw5 : w.heap.size + 1 < w5.heap.size := (by first | omega | (simp at z5; omega)); have zv5 : w.heap.size < w5.heap.size := (by omega); have zo5 : wr.heap.size < w5.heap.size := (by first | omega | (simp at z5; omega)); try have zt5 : tb < w5.heap.size := (by omega)))
            all_goals go_ret
            all_goals exact ⟨by rw [hfail.out]; rfl, below_then hbl (by repeat (first | exact below_alloc _ _ | exact Below.refl _ _ | refine below_drewN ?_ _ | refine below_then ?_ hb5 | refine below_then ?_ hb4 | refine below_then ?_ hb3 | refine below_then ?_ hb2 | refine below_then ?_ hb1))⟩
          · skip
            have ep : (pop == 19) = false := by simpa using hp19
            have hfail : Hid (OC.deepB ops t 0 false OC.oz ops = false) := by
              show _ = _
              rw [hq.out, hd, OC.deepB]
              simp [hA, hN, hF1]
            clear hd hq hpv hA hN hp19
            go_wp2_with (first
              | (go_at_call 35; refine (HAF.out _).mono ?_; rintro e w1 ⟨rfl, hb1⟩; obtain ⟨hcc1, hff1⟩ := bcell hb1; have z1 := hb1.size; have zb1 : b < w1.heap.size := (by first | omega | (simp at z1; omega)); have zw1 : w.heap.size + 1 < w1.heap.size := (by first | omega | (simp at z1; omega)); have zv1 : w.heap.size < w1.heap.size := (by omega); have zo1 : wr.heap.size < w1.heap.size := (by first | omega | (simp at z1; omega)); try have zt1 : tb < w1.heap.size := (by omega))
              | (go_at_call 88; refine (HNE.out _).mono ?_; rintro e w2 ⟨rfl, hb2⟩; obtain ⟨hcc2, hff2⟩ := bcell hb2; have z2 := hb2.size; have zb2 : b < w2.heap.size := (by first | omega | (simp at z2; omega)); have zw2 : w.heap.size + 1 < w2.heap.size := (by first | omega | (simp at z2; omega)); have zv2 : w.heap.size < w2.heap.size := (by omega); have zo2 : wr.heap.size < w2.heap.size := (by first | omega | (simp at z2; omega)); try have zt2 : tb < w2.heap.size := (by omega))
              | (go_at_call 86; refine (HIN.out _).mono ?_; rintro e w9 ⟨rfl, rfl⟩)
              | (go_at_call 89; refine (HLO.out _).mono ?_; rintro e w3 ⟨rfl, hb3⟩; obtain ⟨hcc3, hff3⟩ := bcell hb3; have z3 := hb3.size; have zb3 : b < w3.heap.size := (by first | omega | (simp at z3; omega)); have zw3 : w.heap.size + 1 < w3.heap.size := (by first | omega | (simp at z3; omega)); have zv3 : w.heap.size < w3.heap.size := (by omega); have zo3 : wr.heap.size < w3.heap.size := (by first | omega | (simp at z3; omega)); try have zt3 : tb < w3.heap.size := (by omega))
              | (go_at_call 36; refine (HLA.out _).mono ?_; rintro e w4 ⟨rfl, hb4⟩; obtain ⟨hcc4, hff4⟩ := bcell hb4; have z4 := hb4.size; have zb4 : b < w4.heap.size := (by first | omega | (simp at z4; omega)); have zw4 : w.heap.size + 1 < w4.heap.size := (by first | omega | (simp at z4; omega)); have zv4 : w.heap.size < w4.heap.size := (by omega); have zo4 : wr.heap.size < w4.heap.size := (by first | omega | (simp at z4; omega)); try have zt4 : tb < w4.heap.size := (by omega))
              | (go_at_call 87; refine (HGO.out _).mono ?_; rintro e w5 ⟨rfl, hb5⟩; obtain ⟨hcc5, hff5⟩ := bcell hb5; have z5 := hb5.size; have zb5 : b < w5.heap.size := (by first | omega | (simp at z5; omega)); have zw5 : w.heap.size + 1 < w5.heap.size := (by first | omega | (simp at z5; omega)); have zv5 : w.heap.size < w5.heap.size := (by omega); have zo5 : wr.heap.size < w5.heap.size := (by first | omega | (simp at z5; omega)); try have zt5 : tb < w5.heap.size := (by omega)))
            all_goals go_ret
            all_goals exact ⟨by rw [hfail.out]; rfl, below_then hbl (by repeat (first | exact below_alloc _ _ | exact Below.refl _ _ | refine below_drewN ?_ _ | refine below_then ?_ hb5 | refine below_then ?_ hb4 | refine below_then ?_ hb3 | refine below_then ?_ hb2 | refine below_then ?_ hb1))⟩
        by_cases hin : OC.inB A 2 4000 = true
        case neg =>
          rw [Bool.not_eq_true] at hin
          by_cases hp19 : pop = 19
          · subst hp19
            have HIN : Hid (∀ W, Calls Tryd.prog 86 #[.int .i64 A, .int .i64 2, .int .i64 4000] W fun e w' => e = .returned (.bool false) ∧ W = w') := fun W => by have h := inR_c A 2 4000 W; rwa [hin] at h
            have hfail : Hid (OC.deepB ops t 0 false OC.oz ops = false) := by
              show _ = _
              rw [hq.out, hd, OC.deepB]
              simp [hA, hN, hin]
            clear hd hq hpv hA hN hin
            go_wp2_with (first
              | (go_at_call 35; refine (HAF.out _).mono ?_; rintro e w1 ⟨rfl, hb1⟩; obtain ⟨hcc1, hff1⟩ := bcell hb1; have z1 := hb1.size; have zb1 : b < w1.heap.size := (by first | omega | (simp at z1; omega)); have zw1 : w.heap.size + 1 < w1.heap.size := (by first | omega | (simp at z1; omega)); have zv1 : w.heap.size < w1.heap.size := (by omega); have zo1 : wr.heap.size < w1.heap.size := (by first | omega | (simp at z1; omega)); try have zt1 : tb < w1.heap.size := (by omega))
              | (go_at_call 88; refine (HNE.out _).mono ?_; rintro e w2 ⟨rfl, hb2⟩; obtain ⟨hcc2, hff2⟩ := bcell hb2; have z2 := hb2.size; have zb2 : b < w2.heap.size := (by first | omega | (simp at z2; omega)); have zw2 : w.heap.size + 1 < w2.heap.size := (by first | omega | (simp at z2; omega)); have zv2 : w.heap.size < w2.heap.size := (by omega); have zo2 : wr.heap.size < w2.heap.size := (by first | omega | (simp at z2; omega)); try have zt2 : tb < w2.heap.size := (by omega))
              | (go_at_call 86; refine (HIN.out _).mono ?_; rintro e w9 ⟨rfl, rfl⟩)
              | (go_at_call 89; refine (HLO.out _).mono ?_; rintro e w3 ⟨rfl, hb3⟩; obtain ⟨hcc3, hff3⟩ := bcell hb3; have z3 := hb3.size; have zb3 : b < w3.heap.size := (by first | omega | (simp at z3; omega)); have zw3 : w.heap.size + 1 < w3.heap.size := (by first | omega | (simp at z3; omega)); have zv3 : w.heap.size < w3.heap.size := (by omega); have zo3 : wr.heap.size < w3.heap.size := (by first | omega | (simp at z3; omega)); try have zt3 : tb < w3.heap.size := (by omega))
              | (go_at_call 36; refine (HLA.out _).mono ?_; rintro e w4 ⟨rfl, hb4⟩; obtain ⟨hcc4, hff4⟩ := bcell hb4; have z4 := hb4.size; have zb4 : b < w4.heap.size := (by first | omega | (simp at z4; omega)); have zw4 : w.heap.size + 1 < w4.heap.size := (by first | omega | (simp at z4; omega)); have zv4 : w.heap.size < w4.heap.size := (by omega); have zo4 : wr.heap.size < w4.heap.size := (by first | omega | (simp at z4; omega)); try have zt4 : tb < w4.heap.size := (by omega))
              | (go_at_call 87; refine (HGO.out _).mono ?_; rintro e w5 ⟨rfl, hb5⟩; obtain ⟨hcc5, hff5⟩ := bcell hb5; have z5 := hb5.size; have zb5 : b < w5.heap.size := (by first | omega | (simp at z5; omega)); have zw5 : w.heap.size + 1 < w5.heap.size := (by first | omega | (simp at z5; omega)); have zv5 : w.heap.size < w5.heap.size := (by omega); have zo5 : wr.heap.size < w5.heap.size := (by first | omega | (simp at z5; omega)); try have zt5 : tb < w5.heap.size := (by omega)))
            all_goals go_ret
            all_goals exact ⟨by rw [hfail.out]; rfl, below_then hbl (by repeat (first | exact below_alloc _ _ | exact Below.refl _ _ | refine below_drewN ?_ _ | refine below_then ?_ hb5 | refine below_then ?_ hb4 | refine below_then ?_ hb3 | refine below_then ?_ hb2 | refine below_then ?_ hb1))⟩
          · skip
            have HIN : Hid (∀ W, Calls Tryd.prog 86 #[.int .i64 A, .int .i64 2, .int .i64 4000] W fun e w' => e = .returned (.bool false) ∧ W = w') := fun W => by have h := inR_c A 2 4000 W; rwa [hin] at h
            have ep : (pop == 19) = false := by simpa using hp19
            have hfail : Hid (OC.deepB ops t 0 false OC.oz ops = false) := by
              show _ = _
              rw [hq.out, hd, OC.deepB]
              simp [hA, hN, hin]
            clear hd hq hpv hA hN hin hp19
            go_wp2_with (first
              | (go_at_call 35; refine (HAF.out _).mono ?_; rintro e w1 ⟨rfl, hb1⟩; obtain ⟨hcc1, hff1⟩ := bcell hb1; have z1 := hb1.size; have zb1 : b < w1.heap.size := (by first | omega | (simp at z1; omega)); have zw1 : w.heap.size + 1 < w1.heap.size := (by first | omega | (simp at z1; omega)); have zv1 : w.heap.size < w1.heap.size := (by omega); have zo1 : wr.heap.size < w1.heap.size := (by first | omega | (simp at z1; omega)); try have zt1 : tb < w1.heap.size := (by omega))
              | (go_at_call 88; refine (HNE.out _).mono ?_; rintro e w2 ⟨rfl, hb2⟩; obtain ⟨hcc2, hff2⟩ := bcell hb2; have z2 := hb2.size; have zb2 : b < w2.heap.size := (by first | omega | (simp at z2; omega)); have zw2 : w.heap.size + 1 < w2.heap.size := (by first | omega | (simp at z2; omega)); have zv2 : w.heap.size < w2.heap.size := (by omega); have zo2 : wr.heap.size < w2.heap.size := (by first | omega | (simp at z2; omega)); try have zt2 : tb < w2.heap.size := (by omega))
              | (go_at_call 86; refine (HIN.out _).mono ?_; rintro e w9 ⟨rfl, rfl⟩)
              | (go_at_call 89; refine (HLO.out _).mono ?_; rintro e w3 ⟨rfl, hb3⟩; obtain ⟨hcc3, hff3⟩ := bcell hb3; have z3 := hb3.size; have zb3 : b < w3.heap.size := (by first | omega | (simp at z3; omega)); have zw3 : w.heap.size + 1 < w3.heap.size := (by first | omega | (simp at z3; omega)); have zv3 : w.heap.size < w3.heap.size := (by omega); have zo3 : wr.heap.size < w3.heap.size := (by first | omega | (simp at z3; omega)); try have zt3 : tb < w3.heap.size := (by omega))
              | (go_at_call 36; refine (HLA.out _).mono ?_; rintro e w4 ⟨rfl, hb4⟩; obtain ⟨hcc4, hff4⟩ := bcell hb4; have z4 := hb4.size; have zb4 : b < w4.heap.size := (by first | omega | (simp at z4; omega)); have zw4 : w.heap.size + 1 < w4.heap.size := (by first | omega | (simp at z4; omega)); have zv4 : w.heap.size < w4.heap.size := (by omega); have zo4 : wr.heap.size < w4.heap.size := (by first | omega | (simp at z4; omega)); try have zt4 : tb < w4.heap.size := (by omega))
              | (go_at_call 87; refine (HGO.out _).mono ?_; rintro e w5 ⟨rfl, hb5⟩; obtain ⟨hcc5, hff5⟩ := bcell hb5; have z5 := hb5.size; have zb5 : b < w5.heap.size := (by first | omega | (simp at z5; omega)); have zw5 : w.heap.size + 1 < w5.heap.size := (by first | omega | (simp at z5; omega)); have zv5 : w.heap.size < w5.heap.size := (by omega); have zo5 : wr.heap.size < w5.heap.size := (by first | omega | (simp at z5; omega)); try have zt5 : tb < w5.heap.size := (by omega)))
            all_goals go_ret
            all_goals exact ⟨by rw [hfail.out]; rfl, below_then hbl (by repeat (first | exact below_alloc _ _ | exact Below.refl _ _ | refine below_drewN ?_ _ | refine below_then ?_ hb5 | refine below_then ?_ hb4 | refine below_then ?_ hb3 | refine below_then ?_ hb2 | refine below_then ?_ hb1))⟩
        obtain ⟨hA1, hA2⟩ := inB_iff.1 hin
        by_cases hp19 : pop = 19
        · subst hp19
          have HIN : Hid (∀ W, Calls Tryd.prog 86 #[.int .i64 A, .int .i64 2, .int .i64 4000] W fun e w' => e = .returned (.bool true) ∧ W = w') := fun W => by have h := inR_c A 2 4000 W; rwa [hin] at h
          have HLA : Hid (∀ W, Calls Tryd.prog 36 #[opVal ⟨18, n, m⟩] W fun e w' => e = .returned (.int .i64 0) ∧ Below W.heap.size W w') := fun W => labelR_c ⟨18, n, m⟩ W
          have HGO : Hid (∀ W, Calls Tryd.prog 87 #[opVal ⟨18, n, m⟩] W fun e w' => e = .returned (.bool true) ∧ Below W.heap.size W w') := fun W => goesonR_c ⟨18, n, m⟩ W
          have hnext : Hid (OC.deepB ops t 0 false OC.oz ops = OC.deepB ops t (A) (true) (⟨18, n, m⟩) (ops.drop (j + 1 + 1))) := by
            show _ = _
            rw [hq.out, hd, OC.deepB]
            simp [hA, hN, hF1, hin, OC.label, OC.goesOn]
          clear hd hq hpv hA hN hin
          go_wp2_with (first
            | (go_at_call 35; refine (HAF.out _).mono ?_; rintro e w1 ⟨rfl, hb1⟩; obtain ⟨hcc1, hff1⟩ := bcell hb1; have z1 := hb1.size; have zb1 : b < w1.heap.size := (by first | omega | (simp at z1; omega)); have zw1 : w.heap.size + 1 < w1.heap.size := (by first | omega | (simp at z1; omega)); have zv1 : w.heap.size < w1.heap.size := (by omega); have zo1 : wr.heap.size < w1.heap.size := (by first | omega | (simp at z1; omega)); try have zt1 : tb < w1.heap.size := (by omega))
            | (go_at_call 88; refine (HNE.out _).mono ?_; rintro e w2 ⟨rfl, hb2⟩; obtain ⟨hcc2, hff2⟩ := bcell hb2; have z2 := hb2.size; have zb2 : b < w2.heap.size := (by first | omega | (simp at z2; omega)); have zw2 : w.heap.size + 1 < w2.heap.size := (by first | omega | (simp at z2; omega)); have zv2 : w.heap.size < w2.heap.size := (by omega); have zo2 : wr.heap.size < w2.heap.size := (by first | omega | (simp at z2; omega)); try have zt2 : tb < w2.heap.size := (by omega))
            | (go_at_call 86; refine (HIN.out _).mono ?_; rintro e w9 ⟨rfl, rfl⟩)
            | (go_at_call 89; refine (HLO.out _).mono ?_; rintro e w3 ⟨rfl, hb3⟩; obtain ⟨hcc3, hff3⟩ := bcell hb3; have z3 := hb3.size; have zb3 : b < w3.heap.size := (by first | omega | (simp at z3; omega)); have zw3 : w.heap.size + 1 < w3.heap.size := (by first | omega | (simp at z3; omega)); have zv3 : w.heap.size < w3.heap.size := (by omega); have zo3 : wr.heap.size < w3.heap.size := (by first | omega | (simp at z3; omega)); try have zt3 : tb < w3.heap.size := (by omega))
            | (go_at_call 36; refine (HLA.out _).mono ?_; rintro e w4 ⟨rfl, hb4⟩; obtain ⟨hcc4, hff4⟩ := bcell hb4; have z4 := hb4.size; have zb4 : b < w4.heap.size := (by first | omega | (simp at z4; omega)); have zw4 : w.heap.size + 1 < w4.heap.size := (by first | omega | (simp at z4; omega)); have zv4 : w.heap.size < w4.heap.size := (by omega); have zo4 : wr.heap.size < w4.heap.size := (by first | omega | (simp at z4; omega)); try have zt4 : tb < w4.heap.size := (by omega))
            | (go_at_call 87; refine (HGO.out _).mono ?_; rintro e w5 ⟨rfl, hb5⟩; obtain ⟨hcc5, hff5⟩ := bcell hb5; have z5 := hb5.size; have zb5 : b < w5.heap.size := (by first | omega | (simp at z5; omega)); have zw5 : w.heap.size + 1 < w5.heap.size := (by first | omega | (simp at z5; omega)); have zv5 : w.heap.size < w5.heap.size := (by omega); have zo5 : wr.heap.size < w5.heap.size := (by first | omega | (simp at z5; omega)); try have zt5 : tb < w5.heap.size := (by omega)))
          all_goals go_quiet (fail)
          all_goals go_wp2_with (first
            | (go_at_call 35; refine (HAF.out _).mono ?_; rintro e w1 ⟨rfl, hb1⟩; obtain ⟨hcc1, hff1⟩ := bcell hb1; have z1 := hb1.size; have zb1 : b < w1.heap.size := (by first | omega | (simp at z1; omega)); have zw1 : w.heap.size + 1 < w1.heap.size := (by first | omega | (simp at z1; omega)); have zv1 : w.heap.size < w1.heap.size := (by omega); have zo1 : wr.heap.size < w1.heap.size := (by first | omega | (simp at z1; omega)); try have zt1 : tb < w1.heap.size := (by omega))
            | (go_at_call 88; refine (HNE.out _).mono ?_; rintro e w2 ⟨rfl, hb2⟩; obtain ⟨hcc2, hff2⟩ := bcell hb2; have z2 := hb2.size; have zb2 : b < w2.heap.size := (by first | omega | (simp at z2; omega)); have zw2 : w.heap.size + 1 < w2.heap.size := (by first | omega | (simp at z2; omega)); have zv2 : w.heap.size < w2.heap.size := (by omega); have zo2 : wr.heap.size < w2.heap.size := (by first | omega | (simp at z2; omega)); try have zt2 : tb < w2.heap.size := (by omega))
            | (go_at_call 86; refine (HIN.out _).mono ?_; rintro e w9 ⟨rfl, rfl⟩)
            | (go_at_call 89; refine (HLO.out _).mono ?_; rintro e w3 ⟨rfl, hb3⟩; obtain ⟨hcc3, hff3⟩ := bcell hb3; have z3 := hb3.size; have zb3 : b < w3.heap.size := (by first | omega | (simp at z3; omega)); have zw3 : w.heap.size + 1 < w3.heap.size := (by first | omega | (simp at z3; omega)); have zv3 : w.heap.size < w3.heap.size := (by omega); have zo3 : wr.heap.size < w3.heap.size := (by first | omega | (simp at z3; omega)); try have zt3 : tb < w3.heap.size := (by omega))
            | (go_at_call 36; refine (HLA.out _).mono ?_; rintro e w4 ⟨rfl, hb4⟩; obtain ⟨hcc4, hff4⟩ := bcell hb4; have z4 := hb4.size; have zb4 : b < w4.heap.size := (by first | omega | (simp at z4; omega)); have zw4 : w.heap.size + 1 < w4.heap.size := (by first | omega | (simp at z4; omega)); have zv4 : w.heap.size < w4.heap.size := (by omega); have zo4 : wr.heap.size < w4.heap.size := (by first | omega | (simp at z4; omega)); try have zt4 : tb < w4.heap.size := (by omega))
            | (go_at_call 87; refine (HGO.out _).mono ?_; rintro e w5 ⟨rfl, hb5⟩; obtain ⟨hcc5, hff5⟩ := bcell hb5; have z5 := hb5.size; have zb5 : b < w5.heap.size := (by first | omega | (simp at z5; omega)); have zw5 : w.heap.size + 1 < w5.heap.size := (by first | omega | (simp at z5; omega)); have zv5 : w.heap.size < w5.heap.size := (by omega); have zo5 : wr.heap.size < w5.heap.size := (by first | omega | (simp at z5; omega)); try have zt5 : tb < w5.heap.size := (by omega)))
          all_goals go_roundw
          all_goals first | (case rel => exact ⟨j + 1 + 1, A, true, ⟨18, n, m⟩, by omega, by go_num, by first | rfl | go_num, by first | rfl | go_num, by omega, by omega, .inr hpn.out.symm, hnext, HBOX.out.keep (by repeat (first | exact below_alloc _ _ | exact Below.refl _ _ | refine below_drewN ?_ _ | refine below_then ?_ hb5 | refine below_then ?_ hb4 | refine below_then ?_ hb3 | refine below_then ?_ hb2 | refine below_then ?_ hb1)) hwz3, HBT.out.keep (by repeat (first | exact below_alloc _ _ | exact Below.refl _ _ | refine below_drewN ?_ _ | refine below_then ?_ hb5 | refine below_then ?_ hb4 | refine below_then ?_ hb3 | refine below_then ?_ hb2 | refine below_then ?_ hb1)) hwz, below_then hbl (by repeat (first | exact below_alloc _ _ | exact Below.refl _ _ | refine below_drewN ?_ _ | refine below_then ?_ hb5 | refine below_then ?_ hb4 | refine below_then ?_ hb3 | refine below_then ?_ hb2 | refine below_then ?_ hb1))⟩) | (simp [intOf]; omega)
        have ep : (pop == 19) = false := by simpa using hp19
        by_cases hlo : OC.localB ⟨18, n, m⟩ d = true
        · skip
          have HIN : Hid (∀ W, Calls Tryd.prog 86 #[.int .i64 A, .int .i64 2, .int .i64 4000] W fun e w' => e = .returned (.bool true) ∧ W = w') := fun W => by have h := inR_c A 2 4000 W; rwa [hin] at h
          have HLO : Hid (∀ W, Calls Tryd.prog 89 #[opVal ⟨18, n, m⟩, .int .i64 d] W fun e w' => e = .returned (.bool true) ∧ Below W.heap.size W w') := fun W => by have h := localR_c ⟨18, n, m⟩ d W x1 x2; rwa [hlo] at h
          have HLA : Hid (∀ W, Calls Tryd.prog 36 #[opVal ⟨18, n, m⟩] W fun e w' => e = .returned (.int .i64 0) ∧ Below W.heap.size W w') := fun W => labelR_c ⟨18, n, m⟩ W
          have HGO : Hid (∀ W, Calls Tryd.prog 87 #[opVal ⟨18, n, m⟩] W fun e w' => e = .returned (.bool true) ∧ Below W.heap.size W w') := fun W => goesonR_c ⟨18, n, m⟩ W
          have hnext : Hid (OC.deepB ops t 0 false OC.oz ops = OC.deepB ops t (A) (true) (⟨18, n, m⟩) (ops.drop (j + 1 + 1))) := by
            show _ = _
            rw [hq.out, hd, OC.deepB]
            simp [hA, hN, hF1, hin, hp19, hlo, OC.label, OC.goesOn]
          clear hd hq hpv hA hN hin hp19 hlo
          go_wp2_with (first
            | (go_at_call 35; refine (HAF.out _).mono ?_; rintro e w1 ⟨rfl, hb1⟩; obtain ⟨hcc1, hff1⟩ := bcell hb1; have z1 := hb1.size; have zb1 : b < w1.heap.size := (by first | omega | (simp at z1; omega)); have zw1 : w.heap.size + 1 < w1.heap.size := (by first | omega | (simp at z1; omega)); have zv1 : w.heap.size < w1.heap.size := (by omega); have zo1 : wr.heap.size < w1.heap.size := (by first | omega | (simp at z1; omega)); try have zt1 : tb < w1.heap.size := (by omega))
            | (go_at_call 88; refine (HNE.out _).mono ?_; rintro e w2 ⟨rfl, hb2⟩; obtain ⟨hcc2, hff2⟩ := bcell hb2; have z2 := hb2.size; have zb2 : b < w2.heap.size := (by first | omega | (simp at z2; omega)); have zw2 : w.heap.size + 1 < w2.heap.size := (by first | omega | (simp at z2; omega)); have zv2 : w.heap.size < w2.heap.size := (by omega); have zo2 : wr.heap.size < w2.heap.size := (by first | omega | (simp at z2; omega)); try have zt2 : tb < w2.heap.size := (by omega))
            | (go_at_call 86; refine (HIN.out _).mono ?_; rintro e w9 ⟨rfl, rfl⟩)
            | (go_at_call 89; refine (HLO.out _).mono ?_; rintro e w3 ⟨rfl, hb3⟩; obtain ⟨hcc3, hff3⟩ := bcell hb3; have z3 := hb3.size; have zb3 : b < w3.heap.size := (by first | omega | (simp at z3; omega)); have zw3 : w.heap.size + 1 < w3.heap.size := (by first | omega | (simp at z3; omega)); have zv3 : w.heap.size < w3.heap.size := (by omega); have zo3 : wr.heap.size < w3.heap.size := (by first | omega | (simp at z3; omega)); try have zt3 : tb < w3.heap.size := (by omega))
            | (go_at_call 36; refine (HLA.out _).mono ?_; rintro e w4 ⟨rfl, hb4⟩; obtain ⟨hcc4, hff4⟩ := bcell hb4; have z4 := hb4.size; have zb4 : b < w4.heap.size := (by first | omega | (simp at z4; omega)); have zw4 : w.heap.size + 1 < w4.heap.size := (by first | omega | (simp at z4; omega)); have zv4 : w.heap.size < w4.heap.size := (by omega); have zo4 : wr.heap.size < w4.heap.size := (by first | omega | (simp at z4; omega)); try have zt4 : tb < w4.heap.size := (by omega))
            | (go_at_call 87; refine (HGO.out _).mono ?_; rintro e w5 ⟨rfl, hb5⟩; obtain ⟨hcc5, hff5⟩ := bcell hb5; have z5 := hb5.size; have zb5 : b < w5.heap.size := (by first | omega | (simp at z5; omega)); have zw5 : w.heap.size + 1 < w5.heap.size := (by first | omega | (simp at z5; omega)); have zv5 : w.heap.size < w5.heap.size := (by omega); have zo5 : wr.heap.size < w5.heap.size := (by first | omega | (simp at z5; omega)); try have zt5 : tb < w5.heap.size := (by omega)))
          all_goals go_quiet (fail)
          all_goals go_wp2_with (first
            | (go_at_call 35; refine (HAF.out _).mono ?_; rintro e w1 ⟨rfl, hb1⟩; obtain ⟨hcc1, hff1⟩ := bcell hb1; have z1 := hb1.size; have zb1 : b < w1.heap.size := (by first | omega | (simp at z1; omega)); have zw1 : w.heap.size + 1 < w1.heap.size := (by first | omega | (simp at z1; omega)); have zv1 : w.heap.size < w1.heap.size := (by omega); have zo1 : wr.heap.size < w1.heap.size := (by first | omega | (simp at z1; omega)); try have zt1 : tb < w1.heap.size := (by omega))
            | (go_at_call 88; refine (HNE.out _).mono ?_; rintro e w2 ⟨rfl, hb2⟩; obtain ⟨hcc2, hff2⟩ := bcell hb2; have z2 := hb2.size; have zb2 : b < w2.heap.size := (by first | omega | (simp at z2; omega)); have zw2 : w.heap.size + 1 < w2.heap.size := (by first | omega | (simp at z2; omega)); have zv2 : w.heap.size < w2.heap.size := (by omega); have zo2 : wr.heap.size < w2.heap.size := (by first | omega | (simp at z2; omega)); try have zt2 : tb < w2.heap.size := (by omega))
            | (go_at_call 86; refine (HIN.out _).mono ?_; rintro e w9 ⟨rfl, rfl⟩)
            | (go_at_call 89; refine (HLO.out _).mono ?_; rintro e w3 ⟨rfl, hb3⟩; obtain ⟨hcc3, hff3⟩ := bcell hb3; have z3 := hb3.size; have zb3 : b < w3.heap.size := (by first | omega | (simp at z3; omega)); have zw3 : w.heap.size + 1 < w3.heap.size := (by first | omega | (simp at z3; omega)); have zv3 : w.heap.size < w3.heap.size := (by omega); have zo3 : wr.heap.size < w3.heap.size := (by first | omega | (simp at z3; omega)); try have zt3 : tb < w3.heap.size := (by omega))
            | (go_at_call 36; refine (HLA.out _).mono ?_; rintro e w4 ⟨rfl, hb4⟩; obtain ⟨hcc4, hff4⟩ := bcell hb4; have z4 := hb4.size; have zb4 : b < w4.heap.size := (by first | omega | (simp at z4; omega)); have zw4 : w.heap.size + 1 < w4.heap.size := (by first | omega | (simp at z4; omega)); have zv4 : w.heap.size < w4.heap.size := (by omega); have zo4 : wr.heap.size < w4.heap.size := (by first | omega | (simp at z4; omega)); try have zt4 : tb < w4.heap.size := (by omega))
            | (go_at_call 87; refine (HGO.out _).mono ?_; rintro e w5 ⟨rfl, hb5⟩; obtain ⟨hcc5, hff5⟩ := bcell hb5; have z5 := hb5.size; have zb5 : b < w5.heap.size := (by first | omega | (simp at z5; omega)); have zw5 : w.heap.size + 1 < w5.heap.size := (by first | omega | (simp at z5; omega)); have zv5 : w.heap.size < w5.heap.size := (by omega); have zo5 : wr.heap.size < w5.heap.size := (by first | omega | (simp at z5; omega)); try have zt5 : tb < w5.heap.size := (by omega)))
          all_goals go_roundw
          all_goals first | (case rel => exact ⟨j + 1 + 1, A, true, ⟨18, n, m⟩, by omega, by go_num, by first | rfl | go_num, by first | rfl | go_num, by omega, by omega, .inr hpn.out.symm, hnext, HBOX.out.keep (by repeat (first | exact below_alloc _ _ | exact Below.refl _ _ | refine below_drewN ?_ _ | refine below_then ?_ hb5 | refine below_then ?_ hb4 | refine below_then ?_ hb3 | refine below_then ?_ hb2 | refine below_then ?_ hb1)) hwz3, HBT.out.keep (by repeat (first | exact below_alloc _ _ | exact Below.refl _ _ | refine below_drewN ?_ _ | refine below_then ?_ hb5 | refine below_then ?_ hb4 | refine below_then ?_ hb3 | refine below_then ?_ hb2 | refine below_then ?_ hb1)) hwz, below_then hbl (by repeat (first | exact below_alloc _ _ | exact Below.refl _ _ | refine below_drewN ?_ _ | refine below_then ?_ hb5 | refine below_then ?_ hb4 | refine below_then ?_ hb3 | refine below_then ?_ hb2 | refine below_then ?_ hb1))⟩) | (simp [intOf]; omega)
        · rw [Bool.not_eq_true] at hlo
          have HIN : Hid (∀ W, Calls Tryd.prog 86 #[.int .i64 A, .int .i64 2, .int .i64 4000] W fun e w' => e = .returned (.bool true) ∧ W = w') := fun W => by have h := inR_c A 2 4000 W; rwa [hin] at h
          have HLO : Hid (∀ W, Calls Tryd.prog 89 #[opVal ⟨18, n, m⟩, .int .i64 d] W fun e w' => e = .returned (.bool false) ∧ Below W.heap.size W w') := fun W => by have h := localR_c ⟨18, n, m⟩ d W x1 x2; rwa [hlo] at h
          have hfail : Hid (OC.deepB ops t 0 false OC.oz ops = false) := by
            show _ = _
            rw [hq.out, hd, OC.deepB]
            simp [hA, hN, hF1, hin, hp19, hlo]
          clear hd hq hpv hA hN hin hp19 hlo
          go_wp2_with (first
            | (go_at_call 35; refine (HAF.out _).mono ?_; rintro e w1 ⟨rfl, hb1⟩; obtain ⟨hcc1, hff1⟩ := bcell hb1; have z1 := hb1.size; have zb1 : b < w1.heap.size := (by first | omega | (simp at z1; omega)); have zw1 : w.heap.size + 1 < w1.heap.size := (by first | omega | (simp at z1; omega)); have zv1 : w.heap.size < w1.heap.size := (by omega); have zo1 : wr.heap.size < w1.heap.size := (by first | omega | (simp at z1; omega)); try have zt1 : tb < w1.heap.size := (by omega))
            | (go_at_call 88; refine (HNE.out _).mono ?_; rintro e w2 ⟨rfl, hb2⟩; obtain ⟨hcc2, hff2⟩ := bcell hb2; have z2 := hb2.size; have zb2 : b < w2.heap.size := (by first | omega | (simp at z2; omega)); have zw2 : w.heap.size + 1 < w2.heap.size := (by first | omega | (simp at z2; omega)); have zv2 : w.heap.size < w2.heap.size := (by omega); have zo2 : wr.heap.size < w2.heap.size := (by first | omega | (simp at z2; omega)); try have zt2 : tb < w2.heap.size := (by omega))
            | (go_at_call 86; refine (HIN.out _).mono ?_; rintro e w9 ⟨rfl, rfl⟩)
            | (go_at_call 89; refine (HLO.out _).mono ?_; rintro e w3 ⟨rfl, hb3⟩; obtain ⟨hcc3, hff3⟩ := bcell hb3; have z3 := hb3.size; have zb3 : b < w3.heap.size := (by first | omega | (simp at z3; omega)); have zw3 : w.heap.size + 1 < w3.heap.size := (by first | omega | (simp at z3; omega)); have zv3 : w.heap.size < w3.heap.size := (by omega); have zo3 : wr.heap.size < w3.heap.size := (by first | omega | (simp at z3; omega)); try have zt3 : tb < w3.heap.size := (by omega))
            | (go_at_call 36; refine (HLA.out _).mono ?_; rintro e w4 ⟨rfl, hb4⟩; obtain ⟨hcc4, hff4⟩ := bcell hb4; have z4 := hb4.size; have zb4 : b < w4.heap.size := (by first | omega | (simp at z4; omega)); have zw4 : w.heap.size + 1 < w4.heap.size := (by first | omega | (simp at z4; omega)); have zv4 : w.heap.size < w4.heap.size := (by omega); have zo4 : wr.heap.size < w4.heap.size := (by first | omega | (simp at z4; omega)); try have zt4 : tb < w4.heap.size := (by omega))
            | (go_at_call 87; refine (HGO.out _).mono ?_; rintro e w5 ⟨rfl, hb5⟩; obtain ⟨hcc5, hff5⟩ := bcell hb5; have z5 := hb5.size; have zb5 : b < w5.heap.size := (by first | omega | (simp at z5; omega)); have zw5 : w.heap.size + 1 < w5.heap.size := (by first | omega | (simp at z5; omega)); have zv5 : w.heap.size < w5.heap.size := (by omega); have zo5 : wr.heap.size < w5.heap.size := (by first | omega | (simp at z5; omega)); try have zt5 : tb < w5.heap.size := (by omega)))
          all_goals go_ret
          all_goals exact ⟨by rw [hfail.out]; rfl, below_then hbl (by repeat (first | exact below_alloc _ _ | exact Below.refl _ _ | refine below_drewN ?_ _ | refine below_then ?_ hb5 | refine below_then ?_ hb4 | refine below_then ?_ hb3 | refine below_then ?_ hb2 | refine below_then ?_ hb1))⟩
      have e18 : (op == 18) = false := by simpa using h18
      obtain ⟨A, hA⟩ : ∃ A, OC.after ⟨op, n, m⟩ d = A := ⟨_, rfl⟩
      obtain ⟨N, hN⟩ : ∃ N, OC.needs ⟨op, n, m⟩ = N := ⟨_, rfl⟩
      have hNb := needs_bd ⟨op, n, m⟩
      rw [hN] at hNb
      obtain ⟨hN1, hN2⟩ := hNb
      have HAF : Hid (∀ W, Calls Tryd.prog 35 #[opVal ⟨op, n, m⟩, .int .i64 d] W fun e w' => e = .returned (.int .i64 A) ∧ Below W.heap.size W w') := fun W => by have h := afterR_c ⟨op, n, m⟩ d W b3 b4 b5 b6 x1 x2; rwa [hA] at h
      have HNE : Hid (∀ W, Calls Tryd.prog 88 #[opVal ⟨op, n, m⟩] W fun e w' => e = .returned (.int .i64 N) ∧ Below W.heap.size W w') := fun W => by have h := needsR_c ⟨op, n, m⟩ W; rwa [hN] at h
      by_cases hF1 : d - N < 2
      case pos =>
        have hfail : Hid (OC.deepB ops t 0 false OC.oz ops = false) := by
          show _ = _
          rw [hq.out, hd, OC.deepB]
          simp [h24, hA, hN, hF1]
        clear hd hq hpv hA hN h24 h18 hna hnb hmem HP0
        go_wp2_with (first
          | (go_at_call 35; refine (HAF.out _).mono ?_; rintro e w1 ⟨rfl, hb1⟩; obtain ⟨hcc1, hff1⟩ := bcell hb1; have z1 := hb1.size; have zb1 : b < w1.heap.size := (by first | omega | (simp at z1; omega)); have zw1 : w.heap.size + 1 < w1.heap.size := (by first | omega | (simp at z1; omega)); have zv1 : w.heap.size < w1.heap.size := (by omega); have zo1 : wr.heap.size < w1.heap.size := (by first | omega | (simp at z1; omega)); try have zt1 : tb < w1.heap.size := (by omega))
          | (go_at_call 88; refine (HNE.out _).mono ?_; rintro e w2 ⟨rfl, hb2⟩; obtain ⟨hcc2, hff2⟩ := bcell hb2; have z2 := hb2.size; have zb2 : b < w2.heap.size := (by first | omega | (simp at z2; omega)); have zw2 : w.heap.size + 1 < w2.heap.size := (by first | omega | (simp at z2; omega)); have zv2 : w.heap.size < w2.heap.size := (by omega); have zo2 : wr.heap.size < w2.heap.size := (by first | omega | (simp at z2; omega)); try have zt2 : tb < w2.heap.size := (by omega))
          | (go_at_call 86; refine (HIN.out _).mono ?_; rintro e w9 ⟨rfl, rfl⟩)
          | (go_at_call 89; refine (HLO.out _).mono ?_; rintro e w3 ⟨rfl, hb3⟩; obtain ⟨hcc3, hff3⟩ := bcell hb3; have z3 := hb3.size; have zb3 : b < w3.heap.size := (by first | omega | (simp at z3; omega)); have zw3 : w.heap.size + 1 < w3.heap.size := (by first | omega | (simp at z3; omega)); have zv3 : w.heap.size < w3.heap.size := (by omega); have zo3 : wr.heap.size < w3.heap.size := (by first | omega | (simp at z3; omega)); try have zt3 : tb < w3.heap.size := (by omega))
          | (go_at_call 36; refine (HLA.out _).mono ?_; rintro e w4 ⟨rfl, hb4⟩; obtain ⟨hcc4, hff4⟩ := bcell hb4; have z4 := hb4.size; have zb4 : b < w4.heap.size := (by first | omega | (simp at z4; omega)); have zw4 : w.heap.size + 1 < w4.heap.size := (by first | omega | (simp at z4; omega)); have zv4 : w.heap.size < w4.heap.size := (by omega); have zo4 : wr.heap.size < w4.heap.size := (by first | omega | (simp at z4; omega)); try have zt4 : tb < w4.heap.size := (by omega))
          | (go_at_call 87; refine (HGO.out _).mono ?_; rintro e w5 ⟨rfl, hb5⟩; obtain ⟨hcc5, hff5⟩ := bcell hb5; have z5 := hb5.size; have zb5 : b < w5.heap.size := (by first | omega | (simp at z5; omega)); have zw5 : w.heap.size + 1 < w5.heap.size := (by first | omega | (simp at z5; omega)); have zv5 : w.heap.size < w5.heap.size := (by omega); have zo5 : wr.heap.size < w5.heap.size := (by first | omega | (simp at z5; omega)); try have zt5 : tb < w5.heap.size := (by omega)))
        all_goals go_ret
        all_goals exact ⟨by rw [hfail.out]; rfl, below_then hbl (by repeat (first | exact below_alloc _ _ | exact Below.refl _ _ | refine below_drewN ?_ _ | refine below_then ?_ hb5 | refine below_then ?_ hb4 | refine below_then ?_ hb3 | refine below_then ?_ hb2 | refine below_then ?_ hb1))⟩
      by_cases hin : OC.inB A 2 4000 = true
      case neg =>
        rw [Bool.not_eq_true] at hin
        have HIN : Hid (∀ W, Calls Tryd.prog 86 #[.int .i64 A, .int .i64 2, .int .i64 4000] W fun e w' => e = .returned (.bool false) ∧ W = w') := fun W => by have h := inR_c A 2 4000 W; rwa [hin] at h
        have hfail : Hid (OC.deepB ops t 0 false OC.oz ops = false) := by
          show _ = _
          rw [hq.out, hd, OC.deepB]
          simp [h24, hA, hN, hin]
        clear hd hq hpv hA hN hin h24 h18 hna hnb hmem HP0
        go_wp2_with (first
          | (go_at_call 35; refine (HAF.out _).mono ?_; rintro e w1 ⟨rfl, hb1⟩; obtain ⟨hcc1, hff1⟩ := bcell hb1; have z1 := hb1.size; have zb1 : b < w1.heap.size := (by first | omega | (simp at z1; omega)); have zw1 : w.heap.size + 1 < w1.heap.size := (by first | omega | (simp at z1; omega)); have zv1 : w.heap.size < w1.heap.size := (by omega); have zo1 : wr.heap.size < w1.heap.size := (by first | omega | (simp at z1; omega)); try have zt1 : tb < w1.heap.size := (by omega))
          | (go_at_call 88; refine (HNE.out _).mono ?_; rintro e w2 ⟨rfl, hb2⟩; obtain ⟨hcc2, hff2⟩ := bcell hb2; have z2 := hb2.size; have zb2 : b < w2.heap.size := (by first | omega | (simp at z2; omega)); have zw2 : w.heap.size + 1 < w2.heap.size := (by first | omega | (simp at z2; omega)); have zv2 : w.heap.size < w2.heap.size := (by omega); have zo2 : wr.heap.size < w2.heap.size := (by first | omega | (simp at z2; omega)); try have zt2 : tb < w2.heap.size := (by omega))
          | (go_at_call 86; refine (HIN.out _).mono ?_; rintro e w9 ⟨rfl, rfl⟩)
          | (go_at_call 89; refine (HLO.out _).mono ?_; rintro e w3 ⟨rfl, hb3⟩; obtain ⟨hcc3, hff3⟩ := bcell hb3; have z3 := hb3.size; have zb3 : b < w3.heap.size := (by first | omega | (simp at z3; omega)); have zw3 : w.heap.size + 1 < w3.heap.size := (by first | omega | (simp at z3; omega)); have zv3 : w.heap.size < w3.heap.size := (by omega); have zo3 : wr.heap.size < w3.heap.size := (by first | omega | (simp at z3; omega)); try have zt3 : tb < w3.heap.size := (by omega))
          | (go_at_call 36; refine (HLA.out _).mono ?_; rintro e w4 ⟨rfl, hb4⟩; obtain ⟨hcc4, hff4⟩ := bcell hb4; have z4 := hb4.size; have zb4 : b < w4.heap.size := (by first | omega | (simp at z4; omega)); have zw4 : w.heap.size + 1 < w4.heap.size := (by first | omega | (simp at z4; omega)); have zv4 : w.heap.size < w4.heap.size := (by omega); have zo4 : wr.heap.size < w4.heap.size := (by first | omega | (simp at z4; omega)); try have zt4 : tb < w4.heap.size := (by omega))
          | (go_at_call 87; refine (HGO.out _).mono ?_; rintro e w5 ⟨rfl, hb5⟩; obtain ⟨hcc5, hff5⟩ := bcell hb5; have z5 := hb5.size; have zb5 : b < w5.heap.size := (by first | omega | (simp at z5; omega)); have zw5 : w.heap.size + 1 < w5.heap.size := (by first | omega | (simp at z5; omega)); have zv5 : w.heap.size < w5.heap.size := (by omega); have zo5 : wr.heap.size < w5.heap.size := (by first | omega | (simp at z5; omega)); try have zt5 : tb < w5.heap.size := (by omega)))
        all_goals go_ret
        all_goals exact ⟨by rw [hfail.out]; rfl, below_then hbl (by repeat (first | exact below_alloc _ _ | exact Below.refl _ _ | refine below_drewN ?_ _ | refine below_then ?_ hb5 | refine below_then ?_ hb4 | refine below_then ?_ hb3 | refine below_then ?_ hb2 | refine below_then ?_ hb1))⟩
      obtain ⟨hA1, hA2⟩ := inB_iff.1 hin
      have HIN : Hid (∀ W, Calls Tryd.prog 86 #[.int .i64 A, .int .i64 2, .int .i64 4000] W fun e w' => e = .returned (.bool true) ∧ W = w') := fun W => by have h := inR_c A 2 4000 W; rwa [hin] at h
      by_cases hlo : OC.localB ⟨op, n, m⟩ d = true
      case neg =>
        rw [Bool.not_eq_true] at hlo
        have HLO : Hid (∀ W, Calls Tryd.prog 89 #[opVal ⟨op, n, m⟩, .int .i64 d] W fun e w' => e = .returned (.bool false) ∧ Below W.heap.size W w') := fun W => by have h := localR_c ⟨op, n, m⟩ d W x1 x2; rwa [hlo] at h
        have hfail : Hid (OC.deepB ops t 0 false OC.oz ops = false) := by
          show _ = _
          rw [hq.out, hd, OC.deepB]
          simp [h24, h18, hA, hN, hF1, hin, hlo]
        clear hd hq hpv hA hN hin hlo h24 h18 hna hnb hmem HP0
        go_wp2_with (first
          | (go_at_call 35; refine (HAF.out _).mono ?_; rintro e w1 ⟨rfl, hb1⟩; obtain ⟨hcc1, hff1⟩ := bcell hb1; have z1 := hb1.size; have zb1 : b < w1.heap.size := (by first | omega | (simp at z1; omega)); have zw1 : w.heap.size + 1 < w1.heap.size := (by first | omega | (simp at z1; omega)); have zv1 : w.heap.size < w1.heap.size := (by omega); have zo1 : wr.heap.size < w1.heap.size := (by first | omega | (simp at z1; omega)); try have zt1 : tb < w1.heap.size := (by omega))
          | (go_at_call 88; refine (HNE.out _).mono ?_; rintro e w2 ⟨rfl, hb2⟩; obtain ⟨hcc2, hff2⟩ := bcell hb2; have z2 := hb2.size; have zb2 : b < w2.heap.size := (by first | omega | (simp at z2; omega)); have zw2 : w.heap.size + 1 < w2.heap.size := (by first | omega | (simp at z2; omega)); have zv2 : w.heap.size < w2.heap.size := (by omega); have zo2 : wr.heap.size < w2.heap.size := (by first | omega | (simp at z2; omega)); try have zt2 : tb < w2.heap.size := (by omega))
          | (go_at_call 86; refine (HIN.out _).mono ?_; rintro e w9 ⟨rfl, rfl⟩)
          | (go_at_call 89; refine (HLO.out _).mono ?_; rintro e w3 ⟨rfl, hb3⟩; obtain ⟨hcc3, hff3⟩ := bcell hb3; have z3 := hb3.size; have zb3 : b < w3.heap.size := (by first | omega | (simp at z3; omega)); have zw3 : w.heap.size + 1 < w3.heap.size := (by first | omega | (simp at z3; omega)); have zv3 : w.heap.size < w3.heap.size := (by omega); have zo3 : wr.heap.size < w3.heap.size := (by first | omega | (simp at z3; omega)); try have zt3 : tb < w3.heap.size := (by omega))
          | (go_at_call 36; refine (HLA.out _).mono ?_; rintro e w4 ⟨rfl, hb4⟩; obtain ⟨hcc4, hff4⟩ := bcell hb4; have z4 := hb4.size; have zb4 : b < w4.heap.size := (by first | omega | (simp at z4; omega)); have zw4 : w.heap.size + 1 < w4.heap.size := (by first | omega | (simp at z4; omega)); have zv4 : w.heap.size < w4.heap.size := (by omega); have zo4 : wr.heap.size < w4.heap.size := (by first | omega | (simp at z4; omega)); try have zt4 : tb < w4.heap.size := (by omega))
          | (go_at_call 87; refine (HGO.out _).mono ?_; rintro e w5 ⟨rfl, hb5⟩; obtain ⟨hcc5, hff5⟩ := bcell hb5; have z5 := hb5.size; have zb5 : b < w5.heap.size := (by first | omega | (simp at z5; omega)); have zw5 : w.heap.size + 1 < w5.heap.size := (by first | omega | (simp at z5; omega)); have zv5 : w.heap.size < w5.heap.size := (by omega); have zo5 : wr.heap.size < w5.heap.size := (by first | omega | (simp at z5; omega)); try have zt5 : tb < w5.heap.size := (by omega)))
        all_goals go_ret
        all_goals exact ⟨by rw [hfail.out]; rfl, below_then hbl (by repeat (first | exact below_alloc _ _ | exact Below.refl _ _ | refine below_drewN ?_ _ | refine below_then ?_ hb5 | refine below_then ?_ hb4 | refine below_then ?_ hb3 | refine below_then ?_ hb2 | refine below_then ?_ hb1))⟩
      have HLO : Hid (∀ W, Calls Tryd.prog 89 #[opVal ⟨op, n, m⟩, .int .i64 d] W fun e w' => e = .returned (.bool true) ∧ Below W.heap.size W w') := fun W => by have h := localR_c ⟨op, n, m⟩ d W x1 x2; rwa [hlo] at h
      by_cases h28 : op = 28
      · subst h28
        clear hnb hna hmem HP0 h18 e18 e24
        cases fr
        · skip
          have HLA : Hid (∀ W, Calls Tryd.prog 36 #[opVal ⟨28, n, m⟩] W fun e w' => e = .returned (.int .i64 0) ∧ Below W.heap.size W w') := fun W => labelR_c ⟨28, n, m⟩ W
          have HGO : Hid (∀ W, Calls Tryd.prog 87 #[opVal ⟨28, n, m⟩] W fun e w' => e = .returned (.bool true) ∧ Below W.heap.size W w') := fun W => goesonR_c ⟨28, n, m⟩ W
          have hnext : Hid (OC.deepB ops t 0 false OC.oz ops = OC.deepB ops t (A) (true) (⟨28, n, m⟩) (ops.drop (k + 1))) := by
            show _ = _
            rw [hq.out, hd, OC.deepB]
            simp [hA, hN, hF1, hin, hlo, OC.label, OC.goesOn]
          clear hd hq hpv hA hN hin hlo h24
          go_wp2_with (first
            | (go_at_call 35; refine (HAF.out _).mono ?_; rintro e w1 ⟨rfl, hb1⟩; obtain ⟨hcc1, hff1⟩ := bcell hb1; have z1 := hb1.size; have zb1 : b < w1.heap.size := (by first | omega | (simp at z1; omega)); have zw1 : w.heap.size + 1 < w1.heap.size := (by first | omega | (simp at z1; omega)); have zv1 : w.heap.size < w1.heap.size := (by omega); have zo1 : wr.heap.size < w1.heap.size := (by first | omega | (simp at z1; omega)); try have zt1 : tb < w1.heap.size := (by omega))
            | (go_at_call 88; refine (HNE.out _).mono ?_; rintro e w2 ⟨rfl, hb2⟩; obtain ⟨hcc2, hff2⟩ := bcell hb2; have z2 := hb2.size; have zb2 : b < w2.heap.size := (by first | omega | (simp at z2; omega)); have zw2 : w.heap.size + 1 < w2.heap.size := (by first | omega | (simp at z2; omega)); have zv2 : w.heap.size < w2.heap.size := (by omega); have zo2 : wr.heap.size < w2.heap.size := (by first | omega | (simp at z2; omega)); try have zt2 : tb < w2.heap.size := (by omega))
            | (go_at_call 86; refine (HIN.out _).mono ?_; rintro e w9 ⟨rfl, rfl⟩)
            | (go_at_call 89; refine (HLO.out _).mono ?_; rintro e w3 ⟨rfl, hb3⟩; obtain ⟨hcc3, hff3⟩ := bcell hb3; have z3 := hb3.size; have zb3 : b < w3.heap.size := (by first | omega | (simp at z3; omega)); have zw3 : w.heap.size + 1 < w3.heap.size := (by first | omega | (simp at z3; omega)); have zv3 : w.heap.size < w3.heap.size := (by omega); have zo3 : wr.heap.size < w3.heap.size := (by first | omega | (simp at z3; omega)); try have zt3 : tb < w3.heap.size := (by omega))
            | (go_at_call 36; refine (HLA.out _).mono ?_; rintro e w4 ⟨rfl, hb4⟩; obtain ⟨hcc4, hff4⟩ := bcell hb4; have z4 := hb4.size; have zb4 : b < w4.heap.size := (by first | omega | (simp at z4; omega)); have zw4 : w.heap.size + 1 < w4.heap.size := (by first | omega | (simp at z4; omega)); have zv4 : w.heap.size < w4.heap.size := (by omega); have zo4 : wr.heap.size < w4.heap.size := (by first | omega | (simp at z4; omega)); try have zt4 : tb < w4.heap.size := (by omega))
            | (go_at_call 87; refine (HGO.out _).mono ?_; rintro e w5 ⟨rfl, hb5⟩; obtain ⟨hcc5, hff5⟩ := bcell hb5; have z5 := hb5.size; have zb5 : b < w5.heap.size := (by first | omega | (simp at z5; omega)); have zw5 : w.heap.size + 1 < w5.heap.size := (by first | omega | (simp at z5; omega)); have zv5 : w.heap.size < w5.heap.size := (by omega); have zo5 : wr.heap.size < w5.heap.size := (by first | omega | (simp at z5; omega)); try have zt5 : tb < w5.heap.size := (by omega)))
          all_goals go_quiet (fail)
          all_goals go_wp2_with (first
            | (go_at_call 35; refine (HAF.out _).mono ?_; rintro e w1 ⟨rfl, hb1⟩; obtain ⟨hcc1, hff1⟩ := bcell hb1; have z1 := hb1.size; have zb1 : b < w1.heap.size := (by first | omega | (simp at z1; omega)); have zw1 : w.heap.size + 1 < w1.heap.size := (by first | omega | (simp at z1; omega)); have zv1 : w.heap.size < w1.heap.size := (by omega); have zo1 : wr.heap.size < w1.heap.size := (by first | omega | (simp at z1; omega)); try have zt1 : tb < w1.heap.size := (by omega))
            | (go_at_call 88; refine (HNE.out _).mono ?_; rintro e w2 ⟨rfl, hb2⟩; obtain ⟨hcc2, hff2⟩ := bcell hb2; have z2 := hb2.size; have zb2 : b < w2.heap.size := (by first | omega | (simp at z2; omega)); have zw2 : w.heap.size + 1 < w2.heap.size := (by first | omega | (simp at z2; omega)); have zv2 : w.heap.size < w2.heap.size := (by omega); have zo2 : wr.heap.size < w2.heap.size := (by first | omega | (simp at z2; omega)); try have zt2 : tb < w2.heap.size := (by omega))
            | (go_at_call 86; refine (HIN.out _).mono ?_; rintro e w9 ⟨rfl, rfl⟩)
            | (go_at_call 89; refine (HLO.out _).mono ?_; rintro e w3 ⟨rfl, hb3⟩; obtain ⟨hcc3, hff3⟩ := bcell hb3; have z3 := hb3.size; have zb3 : b < w3.heap.size := (by first | omega | (simp at z3; omega)); have zw3 : w.heap.size + 1 < w3.heap.size := (by first | omega | (simp at z3; omega)); have zv3 : w.heap.size < w3.heap.size := (by omega); have zo3 : wr.heap.size < w3.heap.size := (by first | omega | (simp at z3; omega)); try have zt3 : tb < w3.heap.size := (by omega))
            | (go_at_call 36; refine (HLA.out _).mono ?_; rintro e w4 ⟨rfl, hb4⟩; obtain ⟨hcc4, hff4⟩ := bcell hb4; have z4 := hb4.size; have zb4 : b < w4.heap.size := (by first | omega | (simp at z4; omega)); have zw4 : w.heap.size + 1 < w4.heap.size := (by first | omega | (simp at z4; omega)); have zv4 : w.heap.size < w4.heap.size := (by omega); have zo4 : wr.heap.size < w4.heap.size := (by first | omega | (simp at z4; omega)); try have zt4 : tb < w4.heap.size := (by omega))
            | (go_at_call 87; refine (HGO.out _).mono ?_; rintro e w5 ⟨rfl, hb5⟩; obtain ⟨hcc5, hff5⟩ := bcell hb5; have z5 := hb5.size; have zb5 : b < w5.heap.size := (by first | omega | (simp at z5; omega)); have zw5 : w.heap.size + 1 < w5.heap.size := (by first | omega | (simp at z5; omega)); have zv5 : w.heap.size < w5.heap.size := (by omega); have zo5 : wr.heap.size < w5.heap.size := (by first | omega | (simp at z5; omega)); try have zt5 : tb < w5.heap.size := (by omega)))
          all_goals go_roundw
          all_goals first | (case rel => exact ⟨k + 1, A, true, ⟨28, n, m⟩, by omega, by go_num, by first | rfl | go_num, by first | rfl | go_num, by omega, by omega, .inr hpn.out.symm, hnext, HBOX.out.keep (by repeat (first | exact below_alloc _ _ | exact Below.refl _ _ | refine below_drewN ?_ _ | refine below_then ?_ hb5 | refine below_then ?_ hb4 | refine below_then ?_ hb3 | refine below_then ?_ hb2 | refine below_then ?_ hb1)) hwz3, HBT.out.keep (by repeat (first | exact below_alloc _ _ | exact Below.refl _ _ | refine below_drewN ?_ _ | refine below_then ?_ hb5 | refine below_then ?_ hb4 | refine below_then ?_ hb3 | refine below_then ?_ hb2 | refine below_then ?_ hb1)) hwz, below_then hbl (by repeat (first | exact below_alloc _ _ | exact Below.refl _ _ | refine below_drewN ?_ _ | refine below_then ?_ hb5 | refine below_then ?_ hb4 | refine below_then ?_ hb3 | refine below_then ?_ hb2 | refine below_then ?_ hb1))⟩) | (simp [intOf]; omega)
        · skip
          have hfail : Hid (OC.deepB ops t 0 false OC.oz ops = false) := by
            show _ = _
            rw [hq.out, hd, OC.deepB]
            simp [hA, hN, hF1, hin, hlo]
          clear hd hq hpv hA hN hin hlo h24
          go_wp2_with (first
            | (go_at_call 35; refine (HAF.out _).mono ?_; rintro e w1 ⟨rfl, hb1⟩; obtain ⟨hcc1, hff1⟩ := bcell hb1; have z1 := hb1.size; have zb1 : b < w1.heap.size := (by first | omega | (simp at z1; omega)); have zw1 : w.heap.size + 1 < w1.heap.size := (by first | omega | (simp at z1; omega)); have zv1 : w.heap.size < w1.heap.size := (by omega); have zo1 : wr.heap.size < w1.heap.size := (by first | omega | (simp at z1; omega)); try have zt1 : tb < w1.heap.size := (by omega))
            | (go_at_call 88; refine (HNE.out _).mono ?_; rintro e w2 ⟨rfl, hb2⟩; obtain ⟨hcc2, hff2⟩ := bcell hb2; have z2 := hb2.size; have zb2 : b < w2.heap.size := (by first | omega | (simp at z2; omega)); have zw2 : w.heap.size + 1 < w2.heap.size := (by first | omega | (simp at z2; omega)); have zv2 : w.heap.size < w2.heap.size := (by omega); have zo2 : wr.heap.size < w2.heap.size := (by first | omega | (simp at z2; omega)); try have zt2 : tb < w2.heap.size := (by omega))
            | (go_at_call 86; refine (HIN.out _).mono ?_; rintro e w9 ⟨rfl, rfl⟩)
            | (go_at_call 89; refine (HLO.out _).mono ?_; rintro e w3 ⟨rfl, hb3⟩; obtain ⟨hcc3, hff3⟩ := bcell hb3; have z3 := hb3.size; have zb3 : b < w3.heap.size := (by first | omega | (simp at z3; omega)); have zw3 : w.heap.size + 1 < w3.heap.size := (by first | omega | (simp at z3; omega)); have zv3 : w.heap.size < w3.heap.size := (by omega); have zo3 : wr.heap.size < w3.heap.size := (by first | omega | (simp at z3; omega)); try have zt3 : tb < w3.heap.size := (by omega))
            | (go_at_call 36; refine (HLA.out _).mono ?_; rintro e w4 ⟨rfl, hb4⟩; obtain ⟨hcc4, hff4⟩ := bcell hb4; have z4 := hb4.size; have zb4 : b < w4.heap.size := (by first | omega | (simp at z4; omega)); have zw4 : w.heap.size + 1 < w4.heap.size := (by first | omega | (simp at z4; omega)); have zv4 : w.heap.size < w4.heap.size := (by omega); have zo4 : wr.heap.size < w4.heap.size := (by first | omega | (simp at z4; omega)); try have zt4 : tb < w4.heap.size := (by omega))
            | (go_at_call 87; refine (HGO.out _).mono ?_; rintro e w5 ⟨rfl, hb5⟩; obtain ⟨hcc5, hff5⟩ := bcell hb5; have z5 := hb5.size; have zb5 : b < w5.heap.size := (by first | omega | (simp at z5; omega)); have zw5 : w.heap.size + 1 < w5.heap.size := (by first | omega | (simp at z5; omega)); have zv5 : w.heap.size < w5.heap.size := (by omega); have zo5 : wr.heap.size < w5.heap.size := (by first | omega | (simp at z5; omega)); try have zt5 : tb < w5.heap.size := (by omega)))
          all_goals go_ret
          all_goals exact ⟨by rw [hfail.out]; rfl, below_then hbl (by repeat (first | exact below_alloc _ _ | exact Below.refl _ _ | refine below_drewN ?_ _ | refine below_then ?_ hb5 | refine below_then ?_ hb4 | refine below_then ?_ hb3 | refine below_then ?_ hb2 | refine below_then ?_ hb1))⟩
      have e28 : (op == 28) = false := by simpa using h28
      by_cases h27 : op = 27
      · subst h27
        have hnr := numB_result hnb
        obtain ⟨Ln, hLn⟩ : ∃ Ln : Nat, n = (Ln : Int) := ⟨n.toNat, by omega⟩
        subst hLn
        have hT1 : 0 ≤ t.getD Ln (-1) := by
          have h := hna (by simp [OC.label]; omega)
          simpa [OC.label] using h
        have hTL : (tl : Int) = labels + 1 := HTL.out
        obtain ⟨hnr1, hnr2⟩ := hnr
        dsimp only at hnr2
        clear hnb hna hmem HP0 h18 e18 e24 h28 e28
        have hT0 : 0 ≤ t.getD Ln (-1) := hT1
        obtain ⟨Tn, hTn⟩ : ∃ Tn : Nat, t.getD Ln (-1) = (Tn : Int) := ⟨(t.getD Ln (-1)).toNat, by omega⟩
        obtain ⟨hx2, tb, toff, rfl, gt⟩ := (HT.out.keep hbl).get (i := Ln) (by omega)
        rw [getD_two 0 (-1) (by rw [← hx2]; omega), hTn] at gt
        clear hx2 hT0 hT1
        have htb : tb < wr.heap.size := World.block_lt_of_cell? _ _ gt
        have htb1 : tb < wr.heap.size + 1 := by omega
        have hLn2 : (Ln : Int) < (tl : Int) := by omega
        have hLn3 : (0 : Int) < (Ln : Int) := by omega
        have hLnp : 0 < Ln := by omega
        obtain ⟨B, hB⟩ : ∃ B, OC.landsB (ops.drop Tn) = B := ⟨_, rfl⟩
        clear hTL hnr2
        cases B
        · skip
          have HLA : Hid (∀ W, Calls Tryd.prog 36 #[opVal ⟨27, (Ln : Int), m⟩] W fun e w' => e = .returned (.int .i64 (Ln : Int)) ∧ Below W.heap.size W w') := fun W => labelR_c ⟨27, (Ln : Int), m⟩ W
          have HLN : Hid (∀ W, RdO W (.slice (some ⟨b, off, none⟩) ol oc) ops → Calls Tryd.prog 90 #[.slice (some ⟨b, off, none⟩) ol oc, .int .i64 (Tn : Int)] W fun e w' => e = .returned (.bool false) ∧ w' = W) := fun W hW => by have h := landsR_c ops _ _ _ W Tn hW; rw [hB] at h; exact h.mono fun e w' ⟨he, hw⟩ => ⟨he, hw.symm⟩
          have hfail : Hid (OC.deepB ops t 0 false OC.oz ops = false) := by
            show _ = _
            rw [hq.out, hd, OC.deepB]
            simp [hA, hN, hF1, hin, hlo, OC.label, hTn, hB, hLnp, -List.getD_eq_getElem?_getD]
          clear hd hq hpv hA hN hin hlo h24 hTn hB
          go_wp2_with (first
            | (go_at_call 35; refine (HAF.out _).mono ?_; rintro e w1 ⟨rfl, hb1⟩; obtain ⟨hcc1, hff1⟩ := bcell hb1; have z1 := hb1.size; have zb1 : b < w1.heap.size := (by first | omega | (simp at z1; omega)); have zw1 : w.heap.size + 1 < w1.heap.size := (by first | omega | (simp at z1; omega)); have zv1 : w.heap.size < w1.heap.size := (by omega); have zo1 : wr.heap.size < w1.heap.size := (by first | omega | (simp at z1; omega)); try have zt1 : tb < w1.heap.size := (by omega))
            | (go_at_call 88; refine (HNE.out _).mono ?_; rintro e w2 ⟨rfl, hb2⟩; obtain ⟨hcc2, hff2⟩ := bcell hb2; have z2 := hb2.size; have zb2 : b < w2.heap.size := (by first | omega | (simp at z2; omega)); have zw2 : w.heap.size + 1 < w2.heap.size := (by first | omega | (simp at z2; omega)); have zv2 : w.heap.size < w2.heap.size := (by omega); have zo2 : wr.heap.size < w2.heap.size := (by first | omega | (simp at z2; omega)); try have zt2 : tb < w2.heap.size := (by omega))
            | (go_at_call 86; refine (HIN.out _).mono ?_; rintro e w9 ⟨rfl, rfl⟩)
            | (go_at_call 89; refine (HLO.out _).mono ?_; rintro e w3 ⟨rfl, hb3⟩; obtain ⟨hcc3, hff3⟩ := bcell hb3; have z3 := hb3.size; have zb3 : b < w3.heap.size := (by first | omega | (simp at z3; omega)); have zw3 : w.heap.size + 1 < w3.heap.size := (by first | omega | (simp at z3; omega)); have zv3 : w.heap.size < w3.heap.size := (by omega); have zo3 : wr.heap.size < w3.heap.size := (by first | omega | (simp at z3; omega)); try have zt3 : tb < w3.heap.size := (by omega))
            | (go_at_call 36; refine (HLA.out _).mono ?_; rintro e w4 ⟨rfl, hb4⟩; obtain ⟨hcc4, hff4⟩ := bcell hb4; have z4 := hb4.size; have zb4 : b < w4.heap.size := (by first | omega | (simp at z4; omega)); have zw4 : w.heap.size + 1 < w4.heap.size := (by first | omega | (simp at z4; omega)); have zv4 : w.heap.size < w4.heap.size := (by omega); have zo4 : wr.heap.size < w4.heap.size := (by first | omega | (simp at z4; omega)); try have zt4 : tb < w4.heap.size := (by omega))
            | (go_at_call 87; refine (HGO.out _).mono ?_; rintro e w5 ⟨rfl, hb5⟩; obtain ⟨hcc5, hff5⟩ := bcell hb5; have z5 := hb5.size; have zb5 : b < w5.heap.size := (by first | omega | (simp at z5; omega)); have zw5 : w.heap.size + 1 < w5.heap.size := (by first | omega | (simp at z5; omega)); have zv5 : w.heap.size < w5.heap.size := (by omega); have zo5 : wr.heap.size < w5.heap.size := (by first | omega | (simp at z5; omega)); try have zt5 : tb < w5.heap.size := (by omega)))
          all_goals go_quiet ((go_at_call 90; exact Calls.quiet_of_same (HLN.out _ (HOI.out.keep fun _ _ _ h => h.keep (by repeat (first | exact below_alloc _ _ | exact Below.refl _ _ | refine below_drewN ?_ _ | refine below_then ?_ hb5 | refine below_then ?_ hb4 | refine below_then ?_ hb3 | refine below_then ?_ hb2 | refine below_then ?_ hb1))))))
          all_goals go_wp2_with (first
            | (go_at_call 35; refine (HAF.out _).mono ?_; rintro e w1 ⟨rfl, hb1⟩; obtain ⟨hcc1, hff1⟩ := bcell hb1; have z1 := hb1.size; have zb1 : b < w1.heap.size := (by first | omega | (simp at z1; omega)); have zw1 : w.heap.size + 1 < w1.heap.size := (by first | omega | (simp at z1; omega)); have zv1 : w.heap.size < w1.heap.size := (by omega); have zo1 : wr.heap.size < w1.heap.size := (by first | omega | (simp at z1; omega)); try have zt1 : tb < w1.heap.size := (by omega))
            | (go_at_call 88; refine (HNE.out _).mono ?_; rintro e w2 ⟨rfl, hb2⟩; obtain ⟨hcc2, hff2⟩ := bcell hb2; have z2 := hb2.size; have zb2 : b < w2.heap.size := (by first | omega | (simp at z2; omega)); have zw2 : w.heap.size + 1 < w2.heap.size := (by first | omega | (simp at z2; omega)); have zv2 : w.heap.size < w2.heap.size := (by omega); have zo2 : wr.heap.size < w2.heap.size := (by first | omega | (simp at z2; omega)); try have zt2 : tb < w2.heap.size := (by omega))
            | (go_at_call 86; refine (HIN.out _).mono ?_; rintro e w9 ⟨rfl, rfl⟩)
            | (go_at_call 89; refine (HLO.out _).mono ?_; rintro e w3 ⟨rfl, hb3⟩; obtain ⟨hcc3, hff3⟩ := bcell hb3; have z3 := hb3.size; have zb3 : b < w3.heap.size := (by first | omega | (simp at z3; omega)); have zw3 : w.heap.size + 1 < w3.heap.size := (by first | omega | (simp at z3; omega)); have zv3 : w.heap.size < w3.heap.size := (by omega); have zo3 : wr.heap.size < w3.heap.size := (by first | omega | (simp at z3; omega)); try have zt3 : tb < w3.heap.size := (by omega))
            | (go_at_call 36; refine (HLA.out _).mono ?_; rintro e w4 ⟨rfl, hb4⟩; obtain ⟨hcc4, hff4⟩ := bcell hb4; have z4 := hb4.size; have zb4 : b < w4.heap.size := (by first | omega | (simp at z4; omega)); have zw4 : w.heap.size + 1 < w4.heap.size := (by first | omega | (simp at z4; omega)); have zv4 : w.heap.size < w4.heap.size := (by omega); have zo4 : wr.heap.size < w4.heap.size := (by first | omega | (simp at z4; omega)); try have zt4 : tb < w4.heap.size := (by omega))
            | (go_at_call 87; refine (HGO.out _).mono ?_; rintro e w5 ⟨rfl, hb5⟩; obtain ⟨hcc5, hff5⟩ := bcell hb5; have z5 := hb5.size; have zb5 : b < w5.heap.size := (by first | omega | (simp at z5; omega)); have zw5 : w.heap.size + 1 < w5.heap.size := (by first | omega | (simp at z5; omega)); have zv5 : w.heap.size < w5.heap.size := (by omega); have zo5 : wr.heap.size < w5.heap.size := (by first | omega | (simp at z5; omega)); try have zt5 : tb < w5.heap.size := (by omega)))
          all_goals go_ret
          all_goals exact ⟨by rw [hfail.out]; rfl, below_then hbl (by repeat (first | exact below_alloc _ _ | exact Below.refl _ _ | refine below_drewN ?_ _ | refine below_then ?_ hb5 | refine below_then ?_ hb4 | refine below_then ?_ hb3 | refine below_then ?_ hb2 | refine below_then ?_ hb1))⟩
        · skip
          have HLA : Hid (∀ W, Calls Tryd.prog 36 #[opVal ⟨27, (Ln : Int), m⟩] W fun e w' => e = .returned (.int .i64 (Ln : Int)) ∧ Below W.heap.size W w') := fun W => labelR_c ⟨27, (Ln : Int), m⟩ W
          have HLN : Hid (∀ W, RdO W (.slice (some ⟨b, off, none⟩) ol oc) ops → Calls Tryd.prog 90 #[.slice (some ⟨b, off, none⟩) ol oc, .int .i64 (Tn : Int)] W fun e w' => e = .returned (.bool true) ∧ w' = W) := fun W hW => by have h := landsR_c ops _ _ _ W Tn hW; rw [hB] at h; exact h.mono fun e w' ⟨he, hw⟩ => ⟨he, hw.symm⟩
          have HGO : Hid (∀ W, Calls Tryd.prog 87 #[opVal ⟨27, (Ln : Int), m⟩] W fun e w' => e = .returned (.bool false) ∧ Below W.heap.size W w') := fun W => goesonR_c ⟨27, (Ln : Int), m⟩ W
          have hnext : Hid (OC.deepB ops t 0 false OC.oz ops = OC.deepB ops t (A) (false) (⟨27, (Ln : Int), m⟩) (ops.drop (k + 1))) := by
            show _ = _
            rw [hq.out, hd, OC.deepB]
            simp [hA, hN, hF1, hin, hlo, OC.label, OC.goesOn, hTn, hB, hLnp, -List.getD_eq_getElem?_getD]
          clear hd hq hpv hA hN hin hlo h24 hTn hB
          go_wp2_with (first
            | (go_at_call 35; refine (HAF.out _).mono ?_; rintro e w1 ⟨rfl, hb1⟩; obtain ⟨hcc1, hff1⟩ := bcell hb1; have z1 := hb1.size; have zb1 : b < w1.heap.size := (by first | omega | (simp at z1; omega)); have zw1 : w.heap.size + 1 < w1.heap.size := (by first | omega | (simp at z1; omega)); have zv1 : w.heap.size < w1.heap.size := (by omega); have zo1 : wr.heap.size < w1.heap.size := (by first | omega | (simp at z1; omega)); try have zt1 : tb < w1.heap.size := (by omega))
            | (go_at_call 88; refine (HNE.out _).mono ?_; rintro e w2 ⟨rfl, hb2⟩; obtain ⟨hcc2, hff2⟩ := bcell hb2; have z2 := hb2.size; have zb2 : b < w2.heap.size := (by first | omega | (simp at z2; omega)); have zw2 : w.heap.size + 1 < w2.heap.size := (by first | omega | (simp at z2; omega)); have zv2 : w.heap.size < w2.heap.size := (by omega); have zo2 : wr.heap.size < w2.heap.size := (by first | omega | (simp at z2; omega)); try have zt2 : tb < w2.heap.size := (by omega))
            | (go_at_call 86; refine (HIN.out _).mono ?_; rintro e w9 ⟨rfl, rfl⟩)
            | (go_at_call 89; refine (HLO.out _).mono ?_; rintro e w3 ⟨rfl, hb3⟩; obtain ⟨hcc3, hff3⟩ := bcell hb3; have z3 := hb3.size; have zb3 : b < w3.heap.size := (by first | omega | (simp at z3; omega)); have zw3 : w.heap.size + 1 < w3.heap.size := (by first | omega | (simp at z3; omega)); have zv3 : w.heap.size < w3.heap.size := (by omega); have zo3 : wr.heap.size < w3.heap.size := (by first | omega | (simp at z3; omega)); try have zt3 : tb < w3.heap.size := (by omega))
            | (go_at_call 36; refine (HLA.out _).mono ?_; rintro e w4 ⟨rfl, hb4⟩; obtain ⟨hcc4, hff4⟩ := bcell hb4; have z4 := hb4.size; have zb4 : b < w4.heap.size := (by first | omega | (simp at z4; omega)); have zw4 : w.heap.size + 1 < w4.heap.size := (by first | omega | (simp at z4; omega)); have zv4 : w.heap.size < w4.heap.size := (by omega); have zo4 : wr.heap.size < w4.heap.size := (by first | omega | (simp at z4; omega)); try have zt4 : tb < w4.heap.size := (by omega))
            | (go_at_call 87; refine (HGO.out _).mono ?_; rintro e w5 ⟨rfl, hb5⟩; obtain ⟨hcc5, hff5⟩ := bcell hb5; have z5 := hb5.size; have zb5 : b < w5.heap.size := (by first | omega | (simp at z5; omega)); have zw5 : w.heap.size + 1 < w5.heap.size := (by first | omega | (simp at z5; omega)); have zv5 : w.heap.size < w5.heap.size := (by omega); have zo5 : wr.heap.size < w5.heap.size := (by first | omega | (simp at z5; omega)); try have zt5 : tb < w5.heap.size := (by omega)))
          all_goals go_quiet ((go_at_call 90; exact Calls.quiet_of_same (HLN.out _ (HOI.out.keep fun _ _ _ h => h.keep (by repeat (first | exact below_alloc _ _ | exact Below.refl _ _ | refine below_drewN ?_ _ | refine below_then ?_ hb5 | refine below_then ?_ hb4 | refine below_then ?_ hb3 | refine below_then ?_ hb2 | refine below_then ?_ hb1))))))
          all_goals go_wp2_with (first
            | (go_at_call 35; refine (HAF.out _).mono ?_; rintro e w1 ⟨rfl, hb1⟩; obtain ⟨hcc1, hff1⟩ := bcell hb1; have z1 := hb1.size; have zb1 : b < w1.heap.size := (by first | omega | (simp at z1; omega)); have zw1 : w.heap.size + 1 < w1.heap.size := (by first | omega | (simp at z1; omega)); have zv1 : w.heap.size < w1.heap.size := (by omega); have zo1 : wr.heap.size < w1.heap.size := (by first | omega | (simp at z1; omega)); try have zt1 : tb < w1.heap.size := (by omega))
            | (go_at_call 88; refine (HNE.out _).mono ?_; rintro e w2 ⟨rfl, hb2⟩; obtain ⟨hcc2, hff2⟩ := bcell hb2; have z2 := hb2.size; have zb2 : b < w2.heap.size := (by first | omega | (simp at z2; omega)); have zw2 : w.heap.size + 1 < w2.heap.size := (by first | omega | (simp at z2; omega)); have zv2 : w.heap.size < w2.heap.size := (by omega); have zo2 : wr.heap.size < w2.heap.size := (by first | omega | (simp at z2; omega)); try have zt2 : tb < w2.heap.size := (by omega))
            | (go_at_call 86; refine (HIN.out _).mono ?_; rintro e w9 ⟨rfl, rfl⟩)
            | (go_at_call 89; refine (HLO.out _).mono ?_; rintro e w3 ⟨rfl, hb3⟩; obtain ⟨hcc3, hff3⟩ := bcell hb3; have z3 := hb3.size; have zb3 : b < w3.heap.size := (by first | omega | (simp at z3; omega)); have zw3 : w.heap.size + 1 < w3.heap.size := (by first | omega | (simp at z3; omega)); have zv3 : w.heap.size < w3.heap.size := (by omega); have zo3 : wr.heap.size < w3.heap.size := (by first | omega | (simp at z3; omega)); try have zt3 : tb < w3.heap.size := (by omega))
            | (go_at_call 36; refine (HLA.out _).mono ?_; rintro e w4 ⟨rfl, hb4⟩; obtain ⟨hcc4, hff4⟩ := bcell hb4; have z4 := hb4.size; have zb4 : b < w4.heap.size := (by first | omega | (simp at z4; omega)); have zw4 : w.heap.size + 1 < w4.heap.size := (by first | omega | (simp at z4; omega)); have zv4 : w.heap.size < w4.heap.size := (by omega); have zo4 : wr.heap.size < w4.heap.size := (by first | omega | (simp at z4; omega)); try have zt4 : tb < w4.heap.size := (by omega))
            | (go_at_call 87; refine (HGO.out _).mono ?_; rintro e w5 ⟨rfl, hb5⟩; obtain ⟨hcc5, hff5⟩ := bcell hb5; have z5 := hb5.size; have zb5 : b < w5.heap.size := (by first | omega | (simp at z5; omega)); have zw5 : w.heap.size + 1 < w5.heap.size := (by first | omega | (simp at z5; omega)); have zv5 : w.heap.size < w5.heap.size := (by omega); have zo5 : wr.heap.size < w5.heap.size := (by first | omega | (simp at z5; omega)); try have zt5 : tb < w5.heap.size := (by omega)))
          all_goals go_roundw
          all_goals first | (case rel => exact ⟨k + 1, A, false, ⟨27, (Ln : Int), m⟩, by omega, by go_num, by first | rfl | go_num, by first | rfl | go_num, by omega, by omega, .inr hpn.out.symm, hnext, HBOX.out.keep (by repeat (first | exact below_alloc _ _ | exact Below.refl _ _ | refine below_drewN ?_ _ | refine below_then ?_ hb5 | refine below_then ?_ hb4 | refine below_then ?_ hb3 | refine below_then ?_ hb2 | refine below_then ?_ hb1)) hwz3, HBT.out.keep (by repeat (first | exact below_alloc _ _ | exact Below.refl _ _ | refine below_drewN ?_ _ | refine below_then ?_ hb5 | refine below_then ?_ hb4 | refine below_then ?_ hb3 | refine below_then ?_ hb2 | refine below_then ?_ hb1)) hwz, below_then hbl (by repeat (first | exact below_alloc _ _ | exact Below.refl _ _ | refine below_drewN ?_ _ | refine below_then ?_ hb5 | refine below_then ?_ hb4 | refine below_then ?_ hb3 | refine below_then ?_ hb2 | refine below_then ?_ hb1))⟩) | (simp [intOf]; omega)
      have e27 : (op == 27) = false := by simpa using h27
      by_cases h19 : op = 19
      · subst h19
        clear hnb hna hmem HP0 h18 e18 e24 h28 e28 h27 e27
        have HLA : Hid (∀ W, Calls Tryd.prog 36 #[opVal ⟨19, n, m⟩] W fun e w' => e = .returned (.int .i64 0) ∧ Below W.heap.size W w') := fun W => labelR_c ⟨19, n, m⟩ W
        have hnext : Hid (OC.deepB ops t 0 false OC.oz ops = OC.deepB ops t (A) (fr) (⟨19, n, m⟩) (ops.drop (k + 1))) := by
          show _ = _
          rw [hq.out, hd, OC.deepB]
          simp [hA, hN, hF1, hin, hlo, OC.label]
        clear hd hq hpv hA hN hin hlo h24
        go_wp2_with (first
          | (go_at_call 35; refine (HAF.out _).mono ?_; rintro e w1 ⟨rfl, hb1⟩; obtain ⟨hcc1, hff1⟩ := bcell hb1; have z1 := hb1.size; have zb1 : b < w1.heap.size := (by first | omega | (simp at z1; omega)); have zw1 : w.heap.size + 1 < w1.heap.size := (by first | omega | (simp at z1; omega)); have zv1 : w.heap.size < w1.heap.size := (by omega); have zo1 : wr.heap.size < w1.heap.size := (by first | omega | (simp at z1; omega)); try have zt1 : tb < w1.heap.size := (by omega))
          | (go_at_call 88; refine (HNE.out _).mono ?_; rintro e w2 ⟨rfl, hb2⟩; obtain ⟨hcc2, hff2⟩ := bcell hb2; have z2 := hb2.size; have zb2 : b < w2.heap.size := (by first | omega | (simp at z2; omega)); have zw2 : w.heap.size + 1 < w2.heap.size := (by first | omega | (simp at z2; omega)); have zv2 : w.heap.size < w2.heap.size := (by omega); have zo2 : wr.heap.size < w2.heap.size := (by first | omega | (simp at z2; omega)); try have zt2 : tb < w2.heap.size := (by omega))
          | (go_at_call 86; refine (HIN.out _).mono ?_; rintro e w9 ⟨rfl, rfl⟩)
          | (go_at_call 89; refine (HLO.out _).mono ?_; rintro e w3 ⟨rfl, hb3⟩; obtain ⟨hcc3, hff3⟩ := bcell hb3; have z3 := hb3.size; have zb3 : b < w3.heap.size := (by first | omega | (simp at z3; omega)); have zw3 : w.heap.size + 1 < w3.heap.size := (by first | omega | (simp at z3; omega)); have zv3 : w.heap.size < w3.heap.size := (by omega); have zo3 : wr.heap.size < w3.heap.size := (by first | omega | (simp at z3; omega)); try have zt3 : tb < w3.heap.size := (by omega))
          | (go_at_call 36; refine (HLA.out _).mono ?_; rintro e w4 ⟨rfl, hb4⟩; obtain ⟨hcc4, hff4⟩ := bcell hb4; have z4 := hb4.size; have zb4 : b < w4.heap.size := (by first | omega | (simp at z4; omega)); have zw4 : w.heap.size + 1 < w4.heap.size := (by first | omega | (simp at z4; omega)); have zv4 : w.heap.size < w4.heap.size := (by omega); have zo4 : wr.heap.size < w4.heap.size := (by first | omega | (simp at z4; omega)); try have zt4 : tb < w4.heap.size := (by omega))
          | (go_at_call 87; refine (HGO.out _).mono ?_; rintro e w5 ⟨rfl, hb5⟩; obtain ⟨hcc5, hff5⟩ := bcell hb5; have z5 := hb5.size; have zb5 : b < w5.heap.size := (by first | omega | (simp at z5; omega)); have zw5 : w.heap.size + 1 < w5.heap.size := (by first | omega | (simp at z5; omega)); have zv5 : w.heap.size < w5.heap.size := (by omega); have zo5 : wr.heap.size < w5.heap.size := (by first | omega | (simp at z5; omega)); try have zt5 : tb < w5.heap.size := (by omega)))
        all_goals go_quiet (fail)
        all_goals go_wp2_with (first
          | (go_at_call 35; refine (HAF.out _).mono ?_; rintro e w1 ⟨rfl, hb1⟩; obtain ⟨hcc1, hff1⟩ := bcell hb1; have z1 := hb1.size; have zb1 : b < w1.heap.size := (by first | omega | (simp at z1; omega)); have zw1 : w.heap.size + 1 < w1.heap.size := (by first | omega | (simp at z1; omega)); have zv1 : w.heap.size < w1.heap.size := (by omega); have zo1 : wr.heap.size < w1.heap.size := (by first | omega | (simp at z1; omega)); try have zt1 : tb < w1.heap.size := (by omega))
          | (go_at_call 88; refine (HNE.out _).mono ?_; rintro e w2 ⟨rfl, hb2⟩; obtain ⟨hcc2, hff2⟩ := bcell hb2; have z2 := hb2.size; have zb2 : b < w2.heap.size := (by first | omega | (simp at z2; omega)); have zw2 : w.heap.size + 1 < w2.heap.size := (by first | omega | (simp at z2; omega)); have zv2 : w.heap.size < w2.heap.size := (by omega); have zo2 : wr.heap.size < w2.heap.size := (by first | omega | (simp at z2; omega)); try have zt2 : tb < w2.heap.size := (by omega))
          | (go_at_call 86; refine (HIN.out _).mono ?_; rintro e w9 ⟨rfl, rfl⟩)
          | (go_at_call 89; refine (HLO.out _).mono ?_; rintro e w3 ⟨rfl, hb3⟩; obtain ⟨hcc3, hff3⟩ := bcell hb3; have z3 := hb3.size; have zb3 : b < w3.heap.size := (by first | omega | (simp at z3; omega)); have zw3 : w.heap.size + 1 < w3.heap.size := (by first | omega | (simp at z3; omega)); have zv3 : w.heap.size < w3.heap.size := (by omega); have zo3 : wr.heap.size < w3.heap.size := (by first | omega | (simp at z3; omega)); try have zt3 : tb < w3.heap.size := (by omega))
          | (go_at_call 36; refine (HLA.out _).mono ?_; rintro e w4 ⟨rfl, hb4⟩; obtain ⟨hcc4, hff4⟩ := bcell hb4; have z4 := hb4.size; have zb4 : b < w4.heap.size := (by first | omega | (simp at z4; omega)); have zw4 : w.heap.size + 1 < w4.heap.size := (by first | omega | (simp at z4; omega)); have zv4 : w.heap.size < w4.heap.size := (by omega); have zo4 : wr.heap.size < w4.heap.size := (by first | omega | (simp at z4; omega)); try have zt4 : tb < w4.heap.size := (by omega))
          | (go_at_call 87; refine (HGO.out _).mono ?_; rintro e w5 ⟨rfl, hb5⟩; obtain ⟨hcc5, hff5⟩ := bcell hb5; have z5 := hb5.size; have zb5 : b < w5.heap.size := (by first | omega | (simp at z5; omega)); have zw5 : w.heap.size + 1 < w5.heap.size := (by first | omega | (simp at z5; omega)); have zv5 : w.heap.size < w5.heap.size := (by omega); have zo5 : wr.heap.size < w5.heap.size := (by first | omega | (simp at z5; omega)); try have zt5 : tb < w5.heap.size := (by omega)))
        all_goals go_roundw
        all_goals first | (case rel => exact ⟨k + 1, A, fr, ⟨19, n, m⟩, by omega, by go_num, by first | rfl | go_num, by first | rfl | go_num, by omega, by omega, .inr hpn.out.symm, hnext, HBOX.out.keep (by repeat (first | exact below_alloc _ _ | exact Below.refl _ _ | refine below_drewN ?_ _ | refine below_then ?_ hb5 | refine below_then ?_ hb4 | refine below_then ?_ hb3 | refine below_then ?_ hb2 | refine below_then ?_ hb1)) hwz3, HBT.out.keep (by repeat (first | exact below_alloc _ _ | exact Below.refl _ _ | refine below_drewN ?_ _ | refine below_then ?_ hb5 | refine below_then ?_ hb4 | refine below_then ?_ hb3 | refine below_then ?_ hb2 | refine below_then ?_ hb1)) hwz, below_then hbl (by repeat (first | exact below_alloc _ _ | exact Below.refl _ _ | refine below_drewN ?_ _ | refine below_then ?_ hb5 | refine below_then ?_ hb4 | refine below_then ?_ hb3 | refine below_then ?_ hb2 | refine below_then ?_ hb1))⟩) | (simp [intOf]; omega)
      have n19 : (op != 19) = true := by simpa using h19
      obtain ⟨L, hL⟩ : ∃ L, OC.label ⟨op, n, m⟩ = L := ⟨_, rfl⟩
      obtain ⟨G, hG⟩ : ∃ G, OC.goesOn ⟨op, n, m⟩ = G := ⟨_, rfl⟩
      by_cases hL0 : 0 < L
      · skip
        obtain ⟨Ln, hLn⟩ : ∃ Ln : Nat, L = (Ln : Int) := ⟨L.toNat, by omega⟩
        subst hLn
        have hlb := numB_label hnb
        dsimp only at hlb
        rw [hL] at hlb hna
        have hT1 : 0 ≤ t.getD Ln (-1) := by
          have h := hna hL0
          simpa using h
        have hTL : (tl : Int) = labels + 1 := HTL.out
        clear hna hnb
        have hT0 : 0 ≤ t.getD Ln (-1) := hT1
        obtain ⟨Tn, hTn⟩ : ∃ Tn : Nat, t.getD Ln (-1) = (Tn : Int) := ⟨(t.getD Ln (-1)).toNat, by omega⟩
        obtain ⟨hx2, tb, toff, rfl, gt⟩ := (HT.out.keep hbl).get (i := Ln) (by omega)
        rw [getD_two 0 (-1) (by rw [← hx2]; omega), hTn] at gt
        clear hx2 hT0 hT1
        have htb : tb < wr.heap.size := World.block_lt_of_cell? _ _ gt
        have htb1 : tb < wr.heap.size + 1 := by omega
        have hLn2 : (Ln : Int) < (tl : Int) := by omega
        have hLn3 : (0 : Int) < (Ln : Int) := by omega
        have hLnp : 0 < Ln := by omega
        obtain ⟨B, hB⟩ : ∃ B, OC.landsB (ops.drop Tn) = B := ⟨_, rfl⟩
        clear hTL hlb hmem HP0
        cases B
        · skip
          have HLA : Hid (∀ W, Calls Tryd.prog 36 #[opVal ⟨op, n, m⟩] W fun e w' => e = .returned (.int .i64 (Ln : Int)) ∧ Below W.heap.size W w') := fun W => by have h := labelR_c ⟨op, n, m⟩ W; rwa [hL] at h
          have HLN : Hid (∀ W, RdO W (.slice (some ⟨b, off, none⟩) ol oc) ops → Calls Tryd.prog 90 #[.slice (some ⟨b, off, none⟩) ol oc, .int .i64 (Tn : Int)] W fun e w' => e = .returned (.bool false) ∧ w' = W) := fun W hW => by have h := landsR_c ops _ _ _ W Tn hW; rw [hB] at h; exact h.mono fun e w' ⟨he, hw⟩ => ⟨he, hw.symm⟩
          have HGO : Hid (∀ W, Calls Tryd.prog 87 #[opVal ⟨op, n, m⟩] W fun e w' => e = .returned (.bool G) ∧ Below W.heap.size W w') := fun W => by have h := goesonR_c ⟨op, n, m⟩ W; rwa [hG] at h
          have hnext : Hid (OC.deepB ops t 0 false OC.oz ops = OC.deepB ops t (A) (G) (⟨op, n, m⟩) (ops.drop (k + 1))) := by
            show _ = _
            rw [hq.out, hd, OC.deepB]
            simp [h24, h18, h28, h27, h19, hA, hN, hF1, hin, hlo, hL, hG, hTn, hB, hLnp, -List.getD_eq_getElem?_getD]
          clear hd hq hpv hA hN hin hlo h24 h18 h28 h27 h19 hL hG hTn hB hL0
          go_wp2_with (first
            | (go_at_call 35; refine (HAF.out _).mono ?_; rintro e w1 ⟨rfl, hb1⟩; obtain ⟨hcc1, hff1⟩ := bcell hb1; have z1 := hb1.size; have zb1 : b < w1.heap.size := (by first | omega | (simp at z1; omega)); have zw1 : w.heap.size + 1 < w1.heap.size := (by first | omega | (simp at z1; omega)); have zv1 : w.heap.size < w1.heap.size := (by omega); have zo1 : wr.heap.size < w1.heap.size := (by first | omega | (simp at z1; omega)); try have zt1 : tb < w1.heap.size := (by omega))
            | (go_at_call 88; refine (HNE.out _).mono ?_; rintro e w2 ⟨rfl, hb2⟩; obtain ⟨hcc2, hff2⟩ := bcell hb2; have z2 := hb2.size; have zb2 : b < w2.heap.size := (by first | omega | (simp at z2; omega)); have zw2 : w.heap.size + 1 < w2.heap.size := (by first | omega | (simp at z2; omega)); have zv2 : w.heap.size < w2.heap.size := (by omega); have zo2 : wr.heap.size < w2.heap.size := (by first | omega | (simp at z2; omega)); try have zt2 : tb < w2.heap.size := (by omega))
            | (go_at_call 86; refine (HIN.out _).mono ?_; rintro e w9 ⟨rfl, rfl⟩)
            | (go_at_call 89; refine (HLO.out _).mono ?_; rintro e w3 ⟨rfl, hb3⟩; obtain ⟨hcc3, hff3⟩ := bcell hb3; have z3 := hb3.size; have zb3 : b < w3.heap.size := (by first | omega | (simp at z3; omega)); have zw3 : w.heap.size + 1 < w3.heap.size := (by first | omega | (simp at z3; omega)); have zv3 : w.heap.size < w3.heap.size := (by omega); have zo3 : wr.heap.size < w3.heap.size := (by first | omega | (simp at z3; omega)); try have zt3 : tb < w3.heap.size := (by omega))
            | (go_at_call 36; refine (HLA.out _).mono ?_; rintro e w4 ⟨rfl, hb4⟩; obtain ⟨hcc4, hff4⟩ := bcell hb4; have z4 := hb4.size; have zb4 : b < w4.heap.size := (by first | omega | (simp at z4; omega)); have zw4 : w.heap.size + 1 < w4.heap.size := (by first | omega | (simp at z4; omega)); have zv4 : w.heap.size < w4.heap.size := (by omega); have zo4 : wr.heap.size < w4.heap.size := (by first | omega | (simp at z4; omega)); try have zt4 : tb < w4.heap.size := (by omega))
            | (go_at_call 87; refine (HGO.out _).mono ?_; rintro e w5 ⟨rfl, hb5⟩; obtain ⟨hcc5, hff5⟩ := bcell hb5; have z5 := hb5.size; have zb5 : b < w5.heap.size := (by first | omega | (simp at z5; omega)); have zw5 : w.heap.size + 1 < w5.heap.size := (by first | omega | (simp at z5; omega)); have zv5 : w.heap.size < w5.heap.size := (by omega); have zo5 : wr.heap.size < w5.heap.size := (by first | omega | (simp at z5; omega)); try have zt5 : tb < w5.heap.size := (by omega)))
          all_goals go_quiet ((go_at_call 90; exact Calls.quiet_of_same (HLN.out _ (HOI.out.keep fun _ _ _ h => h.keep (by repeat (first | exact below_alloc _ _ | exact Below.refl _ _ | refine below_drewN ?_ _ | refine below_then ?_ hb5 | refine below_then ?_ hb4 | refine below_then ?_ hb3 | refine below_then ?_ hb2 | refine below_then ?_ hb1))))))
          all_goals go_wp2_with (first
            | (go_at_call 35; refine (HAF.out _).mono ?_; rintro e w1 ⟨rfl, hb1⟩; obtain ⟨hcc1, hff1⟩ := bcell hb1; have z1 := hb1.size; have zb1 : b < w1.heap.size := (by first | omega | (simp at z1; omega)); have zw1 : w.heap.size + 1 < w1.heap.size := (by first | omega | (simp at z1; omega)); have zv1 : w.heap.size < w1.heap.size := (by omega); have zo1 : wr.heap.size < w1.heap.size := (by first | omega | (simp at z1; omega)); try have zt1 : tb < w1.heap.size := (by omega))
            | (go_at_call 88; refine (HNE.out _).mono ?_; rintro e w2 ⟨rfl, hb2⟩; obtain ⟨hcc2, hff2⟩ := bcell hb2; have z2 := hb2.size; have zb2 : b < w2.heap.size := (by first | omega | (simp at z2; omega)); have zw2 : w.heap.size + 1 < w2.heap.size := (by first | omega | (simp at z2; omega)); have zv2 : w.heap.size < w2.heap.size := (by omega); have zo2 : wr.heap.size < w2.heap.size := (by first | omega | (simp at z2; omega)); try have zt2 : tb < w2.heap.size := (by omega))
            | (go_at_call 86; refine (HIN.out _).mono ?_; rintro e w9 ⟨rfl, rfl⟩)
            | (go_at_call 89; refine (HLO.out _).mono ?_; rintro e w3 ⟨rfl, hb3⟩; obtain ⟨hcc3, hff3⟩ := bcell hb3; have z3 := hb3.size; have zb3 : b < w3.heap.size := (by first | omega | (simp at z3; omega)); have zw3 : w.heap.size + 1 < w3.heap.size := (by first | omega | (simp at z3; omega)); have zv3 : w.heap.size < w3.heap.size := (by omega); have zo3 : wr.heap.size < w3.heap.size := (by first | omega | (simp at z3; omega)); try have zt3 : tb < w3.heap.size := (by omega))
            | (go_at_call 36; refine (HLA.out _).mono ?_; rintro e w4 ⟨rfl, hb4⟩; obtain ⟨hcc4, hff4⟩ := bcell hb4; have z4 := hb4.size; have zb4 : b < w4.heap.size := (by first | omega | (simp at z4; omega)); have zw4 : w.heap.size + 1 < w4.heap.size := (by first | omega | (simp at z4; omega)); have zv4 : w.heap.size < w4.heap.size := (by omega); have zo4 : wr.heap.size < w4.heap.size := (by first | omega | (simp at z4; omega)); try have zt4 : tb < w4.heap.size := (by omega))
            | (go_at_call 87; refine (HGO.out _).mono ?_; rintro e w5 ⟨rfl, hb5⟩; obtain ⟨hcc5, hff5⟩ := bcell hb5; have z5 := hb5.size; have zb5 : b < w5.heap.size := (by first | omega | (simp at z5; omega)); have zw5 : w.heap.size + 1 < w5.heap.size := (by first | omega | (simp at z5; omega)); have zv5 : w.heap.size < w5.heap.size := (by omega); have zo5 : wr.heap.size < w5.heap.size := (by first | omega | (simp at z5; omega)); try have zt5 : tb < w5.heap.size := (by omega)))
          all_goals go_roundw
          all_goals first | (case rel => exact ⟨k + 1, A, G, ⟨op, n, m⟩, by omega, by go_num, by first | rfl | go_num, by first | rfl | go_num, by omega, by omega, .inr hpn.out.symm, hnext, HBOX.out.keep (by repeat (first | exact below_alloc _ _ | exact Below.refl _ _ | refine below_drewN ?_ _ | refine below_then ?_ hb5 | refine below_then ?_ hb4 | refine below_then ?_ hb3 | refine below_then ?_ hb2 | refine below_then ?_ hb1)) hwz3, HBT.out.keep (by repeat (first | exact below_alloc _ _ | exact Below.refl _ _ | refine below_drewN ?_ _ | refine below_then ?_ hb5 | refine below_then ?_ hb4 | refine below_then ?_ hb3 | refine below_then ?_ hb2 | refine below_then ?_ hb1)) hwz, below_then hbl (by repeat (first | exact below_alloc _ _ | exact Below.refl _ _ | refine below_drewN ?_ _ | refine below_then ?_ hb5 | refine below_then ?_ hb4 | refine below_then ?_ hb3 | refine below_then ?_ hb2 | refine below_then ?_ hb1))⟩) | (simp [intOf]; omega)
        · skip
          have HLA : Hid (∀ W, Calls Tryd.prog 36 #[opVal ⟨op, n, m⟩] W fun e w' => e = .returned (.int .i64 (Ln : Int)) ∧ Below W.heap.size W w') := fun W => by have h := labelR_c ⟨op, n, m⟩ W; rwa [hL] at h
          have HLN : Hid (∀ W, RdO W (.slice (some ⟨b, off, none⟩) ol oc) ops → Calls Tryd.prog 90 #[.slice (some ⟨b, off, none⟩) ol oc, .int .i64 (Tn : Int)] W fun e w' => e = .returned (.bool true) ∧ w' = W) := fun W hW => by have h := landsR_c ops _ _ _ W Tn hW; rw [hB] at h; exact h.mono fun e w' ⟨he, hw⟩ => ⟨he, hw.symm⟩
          have hfail : Hid (OC.deepB ops t 0 false OC.oz ops = false) := by
            show _ = _
            rw [hq.out, hd, OC.deepB]
            simp [h24, h18, h28, h27, hA, hN, hF1, hin, hlo, hL, hTn, hB, hLnp, -List.getD_eq_getElem?_getD]
          clear hd hq hpv hA hN hin hlo h24 h18 h28 h27 h19 hL hG hTn hB hL0
          go_wp2_with (first
            | (go_at_call 35; refine (HAF.out _).mono ?_; rintro e w1 ⟨rfl, hb1⟩; obtain ⟨hcc1, hff1⟩ := bcell hb1; have z1 := hb1.size; have zb1 : b < w1.heap.size := (by first | omega | (simp at z1; omega)); have zw1 : w.heap.size + 1 < w1.heap.size := (by first | omega | (simp at z1; omega)); have zv1 : w.heap.size < w1.heap.size := (by omega); have zo1 : wr.heap.size < w1.heap.size := (by first | omega | (simp at z1; omega)); try have zt1 : tb < w1.heap.size := (by omega))
            | (go_at_call 88; refine (HNE.out _).mono ?_; rintro e w2 ⟨rfl, hb2⟩; obtain ⟨hcc2, hff2⟩ := bcell hb2; have z2 := hb2.size; have zb2 : b < w2.heap.size := (by first | omega | (simp at z2; omega)); have zw2 : w.heap.size + 1 < w2.heap.size := (by first | omega | (simp at z2; omega)); have zv2 : w.heap.size < w2.heap.size := (by omega); have zo2 : wr.heap.size < w2.heap.size := (by first | omega | (simp at z2; omega)); try have zt2 : tb < w2.heap.size := (by omega))
            | (go_at_call 86; refine (HIN.out _).mono ?_; rintro e w9 ⟨rfl, rfl⟩)
            | (go_at_call 89; refine (HLO.out _).mono ?_; rintro e w3 ⟨rfl, hb3⟩; obtain ⟨hcc3, hff3⟩ := bcell hb3; have z3 := hb3.size; have zb3 : b < w3.heap.size := (by first | omega | (simp at z3; omega)); have zw3 : w.heap.size + 1 < w3.heap.size := (by first | omega | (simp at z3; omega)); have zv3 : w.heap.size < w3.heap.size := (by omega); have zo3 : wr.heap.size < w3.heap.size := (by first | omega | (simp at z3; omega)); try have zt3 : tb < w3.heap.size := (by omega))
            | (go_at_call 36; refine (HLA.out _).mono ?_; rintro e w4 ⟨rfl, hb4⟩; obtain ⟨hcc4, hff4⟩ := bcell hb4; have z4 := hb4.size; have zb4 : b < w4.heap.size := (by first | omega | (simp at z4; omega)); have zw4 : w.heap.size + 1 < w4.heap.size := (by first | omega | (simp at z4; omega)); have zv4 : w.heap.size < w4.heap.size := (by omega); have zo4 : wr.heap.size < w4.heap.size := (by first | omega | (simp at z4; omega)); try have zt4 : tb < w4.heap.size := (by omega))
            | (go_at_call 87; refine (HGO.out _).mono ?_; rintro e w5 ⟨rfl, hb5⟩; obtain ⟨hcc5, hff5⟩ := bcell hb5; have z5 := hb5.size; have zb5 : b < w5.heap.size := (by first | omega | (simp at z5; omega)); have zw5 : w.heap.size + 1 < w5.heap.size := (by first | omega | (simp at z5; omega)); have zv5 : w.heap.size < w5.heap.size := (by omega); have zo5 : wr.heap.size < w5.heap.size := (by first | omega | (simp at z5; omega)); try have zt5 : tb < w5.heap.size := (by omega)))
          all_goals go_quiet ((go_at_call 90; exact Calls.quiet_of_same (HLN.out _ (HOI.out.keep fun _ _ _ h => h.keep (by repeat (first | exact below_alloc _ _ | exact Below.refl _ _ | refine below_drewN ?_ _ | refine below_then ?_ hb5 | refine below_then ?_ hb4 | refine below_then ?_ hb3 | refine below_then ?_ hb2 | refine below_then ?_ hb1))))))
          all_goals go_wp2_with (first
            | (go_at_call 35; refine (HAF.out _).mono ?_; rintro e w1 ⟨rfl, hb1⟩; obtain ⟨hcc1, hff1⟩ := bcell hb1; have z1 := hb1.size; have zb1 : b < w1.heap.size := (by first | omega | (simp at z1; omega)); have zw1 : w.heap.size + 1 < w1.heap.size := (by first | omega | (simp at z1; omega)); have zv1 : w.heap.size < w1.heap.size := (by omega); have zo1 : wr.heap.size < w1.heap.size := (by first | omega | (simp at z1; omega)); try have zt1 : tb < w1.heap.size := (by omega))
            | (go_at_call 88; refine (HNE.out _).mono ?_; rintro e w2 ⟨rfl, hb2⟩; obtain ⟨hcc2, hff2⟩ := bcell hb2; have z2 := hb2.size; have zb2 : b < w2.heap.size := (by first | omega | (simp at z2; omega)); have zw2 : w.heap.size + 1 < w2.heap.size := (by first | omega | (simp at z2; omega)); have zv2 : w.heap.size < w2.heap.size := (by omega); have zo2 : wr.heap.size < w2.heap.size := (by first | omega | (simp at z2; omega)); try have zt2 : tb < w2.heap.size := (by omega))
            | (go_at_call 86; refine (HIN.out _).mono ?_; rintro e w9 ⟨rfl, rfl⟩)
            | (go_at_call 89; refine (HLO.out _).mono ?_; rintro e w3 ⟨rfl, hb3⟩; obtain ⟨hcc3, hff3⟩ := bcell hb3; have z3 := hb3.size; have zb3 : b < w3.heap.size := (by first | omega | (simp at z3; omega)); have zw3 : w.heap.size + 1 < w3.heap.size := (by first | omega | (simp at z3; omega)); have zv3 : w.heap.size < w3.heap.size := (by omega); have zo3 : wr.heap.size < w3.heap.size := (by first | omega | (simp at z3; omega)); try have zt3 : tb < w3.heap.size := (by omega))
            | (go_at_call 36; refine (HLA.out _).mono ?_; rintro e w4 ⟨rfl, hb4⟩; obtain ⟨hcc4, hff4⟩ := bcell hb4; have z4 := hb4.size; have zb4 : b < w4.heap.size := (by first | omega | (simp at z4; omega)); have zw4 : w.heap.size + 1 < w4.heap.size := (by first | omega | (simp at z4; omega)); have zv4 : w.heap.size < w4.heap.size := (by omega); have zo4 : wr.heap.size < w4.heap.size := (by first | omega | (simp at z4; omega)); try have zt4 : tb < w4.heap.size := (by omega))
            | (go_at_call 87; refine (HGO.out _).mono ?_; rintro e w5 ⟨rfl, hb5⟩; obtain ⟨hcc5, hff5⟩ := bcell hb5; have z5 := hb5.size; have zb5 : b < w5.heap.size := (by first | omega | (simp at z5; omega)); have zw5 : w.heap.size + 1 < w5.heap.size := (by first | omega | (simp at z5; omega)); have zv5 : w.heap.size < w5.heap.size := (by omega); have zo5 : wr.heap.size < w5.heap.size := (by first | omega | (simp at z5; omega)); try have zt5 : tb < w5.heap.size := (by omega)))
          all_goals go_ret
          all_goals exact ⟨by rw [hfail.out]; rfl, below_then hbl (by repeat (first | exact below_alloc _ _ | exact Below.refl _ _ | refine below_drewN ?_ _ | refine below_then ?_ hb5 | refine below_then ?_ hb4 | refine below_then ?_ hb3 | refine below_then ?_ hb2 | refine below_then ?_ hb1))⟩
      have hL1 : decide (0 < L) = false := by simpa using hL0
      have HLA : Hid (∀ W, Calls Tryd.prog 36 #[opVal ⟨op, n, m⟩] W fun e w' => e = .returned (.int .i64 L) ∧ Below W.heap.size W w') := fun W => by have h := labelR_c ⟨op, n, m⟩ W; rwa [hL] at h
      have HGO : Hid (∀ W, Calls Tryd.prog 87 #[opVal ⟨op, n, m⟩] W fun e w' => e = .returned (.bool G) ∧ Below W.heap.size W w') := fun W => by have h := goesonR_c ⟨op, n, m⟩ W; rwa [hG] at h
      have hnext : Hid (OC.deepB ops t 0 false OC.oz ops = OC.deepB ops t (A) (G) (⟨op, n, m⟩) (ops.drop (k + 1))) := by
        show _ = _
        rw [hq.out, hd, OC.deepB]
        simp [h24, h18, h28, h27, h19, hA, hN, hF1, hin, hlo, hL, hG, hL0]
      clear hd hq hpv hA hN hin hlo h24 h18 h28 h27 h19 hL hG hL0 hna hnb hmem HP0
      go_wp2_with (first
        | (go_at_call 35; refine (HAF.out _).mono ?_; rintro e w1 ⟨rfl, hb1⟩; obtain ⟨hcc1, hff1⟩ := bcell hb1; have z1 := hb1.size; have zb1 : b < w1.heap.size := (by first | omega | (simp at z1; omega)); have zw1 : w.heap.size + 1 < w1.heap.size := (by first | omega | (simp at z1; omega)); have zv1 : w.heap.size < w1.heap.size := (by omega); have zo1 : wr.heap.size < w1.heap.size := (by first | omega | (simp at z1; omega)); try have zt1 : tb < w1.heap.size := (by omega))
        | (go_at_call 88; refine (HNE.out _).mono ?_; rintro e w2 ⟨rfl, hb2⟩; obtain ⟨hcc2, hff2⟩ := bcell hb2; have z2 := hb2.size; have zb2 : b < w2.heap.size := (by first | omega | (simp at z2; omega)); have zw2 : w.heap.size + 1 < w2.heap.size := (by first | omega | (simp at z2; omega)); have zv2 : w.heap.size < w2.heap.size := (by omega); have zo2 : wr.heap.size < w2.heap.size := (by first | omega | (simp at z2; omega)); try have zt2 : tb < w2.heap.size := (by omega))
        | (go_at_call 86; refine (HIN.out _).mono ?_; rintro e w9 ⟨rfl, rfl⟩)
        | (go_at_call 89; refine (HLO.out _).mono ?_; rintro e w3 ⟨rfl, hb3⟩; obtain ⟨hcc3, hff3⟩ := bcell hb3; have z3 := hb3.size; have zb3 : b < w3.heap.size := (by first | omega | (simp at z3; omega)); have zw3 : w.heap.size + 1 < w3.heap.size := (by first | omega | (simp at z3; omega)); have zv3 : w.heap.size < w3.heap.size := (by omega); have zo3 : wr.heap.size < w3.heap.size := (by first | omega | (simp at z3; omega)); try have zt3 : tb < w3.heap.size := (by omega))
        | (go_at_call 36; refine (HLA.out _).mono ?_; rintro e w4 ⟨rfl, hb4⟩; obtain ⟨hcc4, hff4⟩ := bcell hb4; have z4 := hb4.size; have zb4 : b < w4.heap.size := (by first | omega | (simp at z4; omega)); have zw4 : w.heap.size + 1 < w4.heap.size := (by first | omega | (simp at z4; omega)); have zv4 : w.heap.size < w4.heap.size := (by omega); have zo4 : wr.heap.size < w4.heap.size := (by first | omega | (simp at z4; omega)); try have zt4 : tb < w4.heap.size := (by omega))
        | (go_at_call 87; refine (HGO.out _).mono ?_; rintro e w5 ⟨rfl, hb5⟩; obtain ⟨hcc5, hff5⟩ := bcell hb5; have z5 := hb5.size; have zb5 : b < w5.heap.size := (by first | omega | (simp at z5; omega)); have zw5 : w.heap.size + 1 < w5.heap.size := (by first | omega | (simp at z5; omega)); have zv5 : w.heap.size < w5.heap.size := (by omega); have zo5 : wr.heap.size < w5.heap.size := (by first | omega | (simp at z5; omega)); try have zt5 : tb < w5.heap.size := (by omega)))
      all_goals go_quiet (fail)
      all_goals go_wp2_with (first
        | (go_at_call 35; refine (HAF.out _).mono ?_; rintro e w1 ⟨rfl, hb1⟩; obtain ⟨hcc1, hff1⟩ := bcell hb1; have z1 := hb1.size; have zb1 : b < w1.heap.size := (by first | omega | (simp at z1; omega)); have zw1 : w.heap.size + 1 < w1.heap.size := (by first | omega | (simp at z1; omega)); have zv1 : w.heap.size < w1.heap.size := (by omega); have zo1 : wr.heap.size < w1.heap.size := (by first | omega | (simp at z1; omega)); try have zt1 : tb < w1.heap.size := (by omega))
        | (go_at_call 88; refine (HNE.out _).mono ?_; rintro e w2 ⟨rfl, hb2⟩; obtain ⟨hcc2, hff2⟩ := bcell hb2; have z2 := hb2.size; have zb2 : b < w2.heap.size := (by first | omega | (simp at z2; omega)); have zw2 : w.heap.size + 1 < w2.heap.size := (by first | omega | (simp at z2; omega)); have zv2 : w.heap.size < w2.heap.size := (by omega); have zo2 : wr.heap.size < w2.heap.size := (by first | omega | (simp at z2; omega)); try have zt2 : tb < w2.heap.size := (by omega))
        | (go_at_call 86; refine (HIN.out _).mono ?_; rintro e w9 ⟨rfl, rfl⟩)
        | (go_at_call 89; refine (HLO.out _).mono ?_; rintro e w3 ⟨rfl, hb3⟩; obtain ⟨hcc3, hff3⟩ := bcell hb3; have z3 := hb3.size; have zb3 : b < w3.heap.size := (by first | omega | (simp at z3; omega)); have zw3 : w.heap.size + 1 < w3.heap.size := (by first | omega | (simp at z3; omega)); have zv3 : w.heap.size < w3.heap.size := (by omega); have zo3 : wr.heap.size < w3.heap.size := (by first | omega | (simp at z3; omega)); try have zt3 : tb < w3.heap.size := (by omega))
        | (go_at_call 36; refine (HLA.out _).mono ?_; rintro e w4 ⟨rfl, hb4⟩; obtain ⟨hcc4, hff4⟩ := bcell hb4; have z4 := hb4.size; have zb4 : b < w4.heap.size := (by first | omega | (simp at z4; omega)); have zw4 : w.heap.size + 1 < w4.heap.size := (by first | omega | (simp at z4; omega)); have zv4 : w.heap.size < w4.heap.size := (by omega); have zo4 : wr.heap.size < w4.heap.size := (by first | omega | (simp at z4; omega)); try have zt4 : tb < w4.heap.size := (by omega))
        | (go_at_call 87; refine (HGO.out _).mono ?_; rintro e w5 ⟨rfl, hb5⟩; obtain ⟨hcc5, hff5⟩ := bcell hb5; have z5 := hb5.size; have zb5 : b < w5.heap.size := (by first | omega | (simp at z5; omega)); have zw5 : w.heap.size + 1 < w5.heap.size := (by first | omega | (simp at z5; omega)); have zv5 : w.heap.size < w5.heap.size := (by omega); have zo5 : wr.heap.size < w5.heap.size := (by first | omega | (simp at z5; omega)); try have zt5 : tb < w5.heap.size := (by omega)))
      all_goals go_roundw
      all_goals first | (case rel => exact ⟨k + 1, A, G, ⟨op, n, m⟩, by omega, by go_num, by first | rfl | go_num, by first | rfl | go_num, by omega, by omega, .inr hpn.out.symm, hnext, HBOX.out.keep (by repeat (first | exact below_alloc _ _ | exact Below.refl _ _ | refine below_drewN ?_ _ | refine below_then ?_ hb5 | refine below_then ?_ hb4 | refine below_then ?_ hb3 | refine below_then ?_ hb2 | refine below_then ?_ hb1)) hwz3, HBT.out.keep (by repeat (first | exact below_alloc _ _ | exact Below.refl _ _ | refine below_drewN ?_ _ | refine below_then ?_ hb5 | refine below_then ?_ hb4 | refine below_then ?_ hb3 | refine below_then ?_ hb2 | refine below_then ?_ hb1)) hwz, below_then hbl (by repeat (first | exact below_alloc _ _ | exact Below.refl _ _ | refine below_drewN ?_ _ | refine below_then ?_ hb5 | refine below_then ?_ hb4 | refine below_then ?_ hb3 | refine below_then ?_ hb2 | refine below_then ?_ hb1))⟩) | (simp [intOf]; omega)
    · obtain rfl : k = ol := by omega
      have hfin : Hid (OC.deepB ops t 0 false OC.oz ops = true) := by
        show _ = _
        rw [hq.out, List.drop_eq_nil_of_le (by rw [← HO.out]; exact Nat.le_refl _)]
        rfl
      clear hq hpv
      go_wp2
      all_goals go_ret
      all_goals exact ⟨by rw [hfin.out]; rfl, hbl⟩
end Go.Proofs.YthlakfgpmggceaaDoor
