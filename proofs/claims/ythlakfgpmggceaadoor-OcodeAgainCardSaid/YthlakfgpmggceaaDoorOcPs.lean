/- Comparing code: the program's way. -/
import Derived.Test.YthlakfgpmggceaaDoorOcEc
import Derived.Test.YthlakfgpmggceaaDoorOcDp
namespace Go.Proofs.YthlakfgpmggceaaDoor
open Go.RowKit
set_option linter.unusedVariables false
set_option linter.unusedSimpArgs false
set_option maxHeartbeats 2000000 in
theorem EqualOps_c (a1 a2 : Option Addr) (n1 n2 c1 c2 : Nat) (xs ys : List OC.Op) (w : World) (h1 : RdO w (.slice a1 n1 c1) xs) (h2 : RdO w (.slice a2 n2 c2) ys) :
    Calls Tryd.prog 50 #[.slice a1 n1 c1, .slice a2 n2 c2] w fun e w' => (∃ t, e = .returned (.bool t) ∧ (t = true ↔ xs = ys)) ∧ Below w.heap.size w w' := by
  obtain ⟨hl1, hk1, hm1⟩ := h1.len
  obtain ⟨hl2, hk2, hm2⟩ := h2.len
  have H1 := Lib.hid h1
  have H2 := Lib.hid h2
  have HX := Lib.hid hl1
  have HY := Lib.hid hl2
  have hb1 : n1 ≤ 140737488355328 := by omega
  clear h1 h2 hl1 hl2
  by_cases hlen : n1 = n2
  · subst hlen
    clear hk2
    go_enter Tryd.func50, Tryd.ntmps50
    go_wp2
    go_loopw [13] (fun i wr => ∃ k : Nat, k ≤ n1 ∧ i = .int .i64 k ∧ Hid (xs.take k = ys.take k) ∧ Below w.heap.size w wr) (fun i _ => n1 - (intOf i).toNat)
    case atStart => exact ⟨0, Nat.zero_le _, rfl, (show Hid _ from (rfl : xs.take 0 = ys.take 0)), Below.refl _ _⟩
    case round =>
      obtain ⟨k, hk, rfl, hq, hnx⟩ := hrel
      by_cases hlt : k < n1
      · obtain ⟨hz1, b1, o1, rfl, hat1⟩ := H1.out.get hlt
        obtain ⟨hz2, b2, o2, rfl, hat2⟩ := H2.out.get hlt
        clear hz1 hz2
        obtain ⟨p0, p1, p2⟩ := hat1.keep hnx
        obtain ⟨q0, q1, q2⟩ := hat2.keep hnx
        have EX : Hid (∃ x, xs.getD k OC.oz = x) := ⟨_, rfl⟩
        have k0 : (0 : Int) ≤ (k : Int) := by omega
        have k1 : (k : Int) < (n1 : Int) := by omega
        clear hat1 hat2
        obtain ⟨x, hx⟩ : ∃ x, xs.getD k OC.oz = x := ⟨_, rfl⟩
        obtain ⟨y, hy⟩ : ∃ y, ys.getD k OC.oz = y := ⟨_, rfl⟩
        rw [hx] at p0 p1 p2
        rw [hy] at q0 q1 q2
        have GX := Lib.hid hx
        have GY := Lib.hid hy
        clear hx hy EX
        obtain ⟨x0, x1, x2⟩ := x
        obtain ⟨y0, y1, y2⟩ := y
        dsimp only at p0 p1 p2 q0 q1 q2
        by_cases he : x0 = y0 ∧ x1 = y1 ∧ x2 = y2
        · obtain ⟨rfl, rfl, rfl⟩ := he
          go_wp2
          go_quiet (fail)
          go_wp2
          go_roundw
          case rel => exact ⟨k + 1, by omega, by go_num, (show Hid _ from take_step (by have := HX.out; omega) (by have := HY.out; omega) hq.out (GX.out.trans GY.out.symm)), below_drewN hnx _⟩
          case measure => simp [intOf]; omega
        · have hd : Hid (¬ xs = ys) := by
            intro h
            rw [h] at GX
            have := GX.out.symm.trans GY.out
            simp at this
            exact he this
          by_cases e0 : x0 = y0
          · subst e0
            by_cases e1 : x1 = y1
            · subst e1
              have f2 : (x2 == y2) = false := by simp at he; simpa using he
              clear he
              go_wp2
              go_quiet (fail)
              go_wp2
              go_ret
              exact ⟨⟨_, rfl, by simp; exact hd.out⟩, below_drewN hnx _⟩
            · have f1 : (x1 == y1) = false := by simpa using e1
              clear he e1
              go_wp2
              go_quiet (fail)
              go_wp2
              go_ret
              exact ⟨⟨_, rfl, by simp; exact hd.out⟩, below_drewN hnx _⟩
          · have f0 : (x0 == y0) = false := by simpa using e0
            clear he e0
            go_wp2
            go_quiet (fail)
            go_wp2
            go_ret
            exact ⟨⟨_, rfl, by simp; exact hd.out⟩, below_drewN hnx _⟩
      · obtain rfl : k = n1 := by omega
        have hd : Hid (xs = ys) := by
          have e := hq.out
          rwa [List.take_of_length_le (by have := HX.out; omega), List.take_of_length_le (by have := HY.out; omega)] at e
        go_wp2
        go_ret
        exact ⟨⟨_, rfl, by simp; exact hd.out⟩, hnx⟩
  · have hd : Hid (¬ xs = ys) := by
      intro h; subst h; exact hlen (HX.out.trans HY.out.symm)
    have hne : ((n1 : Int) != (n2 : Int)) = true := by simp; omega
    go_enter Tryd.func50, Tryd.ntmps50
    go_wp2
    go_ret
    exact ⟨⟨_, rfl, by simp; exact hd.out⟩, Below.refl _ _⟩
set_option maxHeartbeats 2000000 in
theorem EqualEnts_c (a1 a2 : Option Addr) (n1 n2 c1 c2 : Nat) (xs ys : List OC.Ent) (w : World) (h1 : RdE w (.slice a1 n1 c1) xs) (h2 : RdE w (.slice a2 n2 c2) ys) :
    Calls Tryd.prog 51 #[.slice a1 n1 c1, .slice a2 n2 c2] w fun e w' => (∃ t, e = .returned (.bool t) ∧ (t = true ↔ xs = ys)) ∧ Below w.heap.size w w' := by
  obtain ⟨hl1, hk1, hm1⟩ := h1.len
  obtain ⟨hl2, hk2, hm2⟩ := h2.len
  have H1 := Lib.hid h1
  have H2 := Lib.hid h2
  have HX := Lib.hid hl1
  have HY := Lib.hid hl2
  have hb1 : n1 ≤ 140737488355328 := by omega
  clear h1 h2 hl1 hl2
  by_cases hlen : n1 = n2
  · subst hlen
    clear hk2
    go_enter Tryd.func51, Tryd.ntmps51
    go_wp2
    go_loopw [13] (fun i wr => ∃ k : Nat, k ≤ n1 ∧ i = .int .i64 k ∧ Hid (xs.take k = ys.take k) ∧ Below w.heap.size w wr) (fun i _ => n1 - (intOf i).toNat)
    case atStart => exact ⟨0, Nat.zero_le _, rfl, (show Hid _ from (rfl : xs.take 0 = ys.take 0)), Below.refl _ _⟩
    case round =>
      obtain ⟨k, hk, rfl, hq, hnx⟩ := hrel
      by_cases hlt : k < n1
      · obtain ⟨hz1, b1, o1, rfl, hat1⟩ := H1.out.get hlt
        obtain ⟨hz2, b2, o2, rfl, hat2⟩ := H2.out.get hlt
        clear hz1 hz2
        obtain ⟨p0, p1⟩ := hat1.keep hnx
        obtain ⟨q0, q1⟩ := hat2.keep hnx
        have EX : Hid (∃ x, xs.getD k OC.ez = x) := ⟨_, rfl⟩
        have k0 : (0 : Int) ≤ (k : Int) := by omega
        have k1 : (k : Int) < (n1 : Int) := by omega
        clear hat1 hat2
        obtain ⟨x, hx⟩ : ∃ x, xs.getD k OC.ez = x := ⟨_, rfl⟩
        obtain ⟨y, hy⟩ : ∃ y, ys.getD k OC.ez = y := ⟨_, rfl⟩
        rw [hx] at p0 p1
        rw [hy] at q0 q1
        have GX := Lib.hid hx
        have GY := Lib.hid hy
        clear hx hy EX
        obtain ⟨x0, x1⟩ := x
        obtain ⟨y0, y1⟩ := y
        dsimp only at p0 p1 q0 q1
        by_cases he : x0 = y0 ∧ x1 = y1
        · obtain ⟨rfl, rfl⟩ := he
          go_wp2
          go_quiet (fail)
          go_wp2
          go_roundw
          case rel => exact ⟨k + 1, by omega, by go_num, (show Hid _ from take_step (by have := HX.out; omega) (by have := HY.out; omega) hq.out (GX.out.trans GY.out.symm)), below_drewN hnx _⟩
          case measure => simp [intOf]; omega
        · have hd : Hid (¬ xs = ys) := by
            intro h
            rw [h] at GX
            have := GX.out.symm.trans GY.out
            simp at this
            exact he this
          by_cases e0 : x0 = y0
          · subst e0
            have f1 : (x1 == y1) = false := by simp at he; simpa using he
            clear he
            go_wp2
            go_quiet (fail)
            go_wp2
            go_ret
            exact ⟨⟨_, rfl, by simp; exact hd.out⟩, below_drewN hnx _⟩
          · have f0 : (x0 == y0) = false := by simpa using e0
            clear he e0
            go_wp2
            go_quiet (fail)
            go_wp2
            go_ret
            exact ⟨⟨_, rfl, by simp; exact hd.out⟩, below_drewN hnx _⟩
      · obtain rfl : k = n1 := by omega
        have hd : Hid (xs = ys) := by
          have e := hq.out
          rwa [List.take_of_length_le (by have := HX.out; omega), List.take_of_length_le (by have := HY.out; omega)] at e
        go_wp2
        go_ret
        exact ⟨⟨_, rfl, by simp; exact hd.out⟩, hnx⟩
  · have hd : Hid (¬ xs = ys) := by
      intro h; subst h; exact hlen (HX.out.trans HY.out.symm)
    have hne : ((n1 : Int) != (n2 : Int)) = true := by simp; omega
    go_enter Tryd.func51, Tryd.ntmps51
    go_wp2
    go_ret
    exact ⟨⟨_, rfl, by simp; exact hd.out⟩, Below.refl _ _⟩
set_option maxHeartbeats 2000000 in
theorem EqualInts_c (a1 a2 : Option Addr) (n1 n2 c1 c2 : Nat) (xs ys : List Int) (w : World) (hx : Rd .i64 w (.slice a1 n1 c1) xs) (hy : Rd .i64 w (.slice a2 n2 c2) ys) (hm : n1 ≤ 140737488355328) (hl1 : n1 = xs.length) (hl2 : n2 = ys.length) :
    Calls Tryd.prog 91 #[.slice a1 n1 c1, .slice a2 n2 c2] w fun e w' => (∃ t, e = .returned (.bool t) ∧ (t = true ↔ xs = ys)) ∧ Below w.heap.size w w' := by
  have H1 := Lib.hid hx
  have H2 := Lib.hid hy
  have HX := Lib.hid hl1
  have HY := Lib.hid hl2
  clear hx hy hl1 hl2
  by_cases hlen : n1 = n2
  · subst hlen
    go_enter Tryd.func91, Tryd.ntmps91
    go_wp2
    go_loopw [13] (fun i wr => ∃ k : Nat, k ≤ n1 ∧ i = .int .i64 k ∧ Hid (xs.take k = ys.take k) ∧ Below w.heap.size w wr) (fun i _ => n1 - (intOf i).toNat)
    case atStart => exact ⟨0, Nat.zero_le _, rfl, (show Hid _ from (rfl : xs.take 0 = ys.take 0)), Below.refl _ _⟩
    case round =>
      obtain ⟨k, hk, rfl, hq, hnx⟩ := hrel
      by_cases hlt : k < n1
      · obtain ⟨-, b1, o1, rfl, hat1⟩ := H1.out.get hlt
        obtain ⟨-, b2, o2, rfl, hat2⟩ := H2.out.get hlt
        have p0 := (hnx.cell (p := ⟨b1, o1 + k, none⟩) (World.block_lt_of_cell? _ _ hat1)).trans hat1
        have q0 := (hnx.cell (p := ⟨b2, o2 + k, none⟩) (World.block_lt_of_cell? _ _ hat2)).trans hat2
        have k0 : (0 : Int) ≤ (k : Int) := by omega
        have k1 : (k : Int) < (n1 : Int) := by omega
        clear hat1 hat2
        obtain ⟨x, hx⟩ : ∃ x, xs.getD k 0 = x := ⟨_, rfl⟩
        obtain ⟨y, hy⟩ : ∃ y, ys.getD k 0 = y := ⟨_, rfl⟩
        rw [hx] at p0
        rw [hy] at q0
        have GX := Lib.hid hx
        have GY := Lib.hid hy
        clear hx hy
        by_cases he : x = y
        · subst he
          go_wp2
          go_quiet (fail)
          go_wp2
          go_roundw
          case rel => exact ⟨k + 1, by omega, by go_num, (show Hid _ from take_step (d := 0) (by have := HX.out; omega) (by have := HY.out; omega) hq.out (GX.out.trans GY.out.symm)), below_drewN hnx _⟩
          case measure => simp [intOf]; omega
        · have hd : Hid (¬ xs = ys) := by
            intro h
            rw [h] at GX
            exact he (GX.out.symm.trans GY.out)
          have hne : (x != y) = true := by simpa using he
          go_wp2
          go_quiet (fail)
          go_wp2
          go_ret
          exact ⟨⟨_, rfl, by simp; exact hd.out⟩, below_drewN hnx _⟩
      · obtain rfl : k = n1 := by omega
        have hd : Hid (xs = ys) := by
          have e := hq.out
          rwa [List.take_of_length_le (by have := HX.out; omega), List.take_of_length_le (by have := HY.out; omega)] at e
        go_wp2
        go_ret
        exact ⟨⟨_, rfl, by simp; exact hd.out⟩, hnx⟩
  · have hd : Hid (¬ xs = ys) := by
      intro h; subst h; exact hlen (HX.out.trans HY.out.symm)
    have hne : ((n1 : Int) != (n2 : Int)) = true := by simp; omega
    go_enter Tryd.func91, Tryd.ntmps91
    go_wp2
    go_ret
    exact ⟨⟨_, rfl, by simp; exact hd.out⟩, Below.refl _ _⟩
set_option maxRecDepth 100000 in
set_option maxHeartbeats 4000000 in
theorem sameAreaP_c (x y : OC.Dat) (v1 v2 : Value) (w : World) (h1 : Rd .i64 w v1 x.words) (h2 : Rd .i64 w v2 y.words) (hm : x.words.length ≤ 140737488355328) :
    Calls Tryd.prog 49 #[.agg #[.string ⟨x.text.toArray⟩, .bool x.isText, v1], .agg #[.string ⟨y.text.toArray⟩, .bool y.isText, v2]] w fun e w' => SaysB e (x = y) ∧ Below w.heap.size w w' := by
  obtain ⟨a1, c1, rfl, g1, g2⟩ := h1
  obtain ⟨a2, c2, rfl, g3, g4⟩ := h2
  have H1 : Hid (Rd .i64 w (.slice a1 x.words.length c1) x.words) := ⟨a1, c1, rfl, g1, g2⟩
  have H2 : Hid (Rd .i64 w (.slice a2 y.words.length c2) y.words) := ⟨a2, c2, rfl, g3, g4⟩
  clear g1 g2 g3 g4
  obtain ⟨t1, i1, u1⟩ := x
  obtain ⟨t2, i2, u2⟩ := y
  dsimp only at *
  obtain ⟨l1, hl1⟩ : ∃ n, u1.length = n := ⟨_, rfl⟩
  obtain ⟨l2, hl2⟩ : ∃ n, u2.length = n := ⟨_, rfl⟩
  rw [hl1] at H1 hm ⊢
  rw [hl2] at H2 ⊢
  have HE : Hid (∀ W, Rd .i64 W (.slice a1 l1 c1) u1 → Rd .i64 W (.slice a2 l2 c2) u2 → Calls Tryd.prog 91 #[.slice a1 l1 c1, .slice a2 l2 c2] W fun e w' => (∃ t, e = .returned (.bool t) ∧ (t = true ↔ u1 = u2)) ∧ Below W.heap.size W w') := fun W g1 g2 => EqualInts_c a1 a2 l1 l2 c1 c2 u1 u2 W g1 g2 hm hl1.symm hl2.symm
  have hX : Hid (((⟨t1, i1, u1⟩ : OC.Dat) = ⟨t2, i2, u2⟩) ↔ t1 = t2 ∧ i1 = i2 ∧ u1 = u2) := by show _ ↔ _; simp
  obtain ⟨X, hXX⟩ : ∃ p : Prop, ((⟨t1, i1, u1⟩ : OC.Dat) = ⟨t2, i2, u2⟩) = p := ⟨_, rfl⟩
  rw [hXX] at hX ⊢
  obtain ⟨r1, hr1⟩ : ∃ r : ByteArray, (⟨t1.toArray⟩ : ByteArray) = r := ⟨_, rfl⟩
  obtain ⟨r2, hr2⟩ : ∃ r : ByteArray, (⟨t2.toArray⟩ : ByteArray) = r := ⟨_, rfl⟩
  have HR1 := Lib.hid hr1
  have HR2 := Lib.hid hr2
  rw [hr1, hr2]
  clear hr1 hr2 hXX hl1 hl2
  by_cases e5 : t1 = t2
  case neg =>
    have f := strNe HR1.out HR2.out e5
    have fr : ¬ r1 = r2 := fun h => e5 (bytes_eq.1 (HR1.out.trans (h.trans HR2.out.symm)))
    have hn : Hid (¬ X) := fun h => e5 (hX.out.1 h).1
    go_enter Tryd.func49, Tryd.ntmps49
    go_wp2
    all_goals go_ret
    all_goals exact ⟨⟨false, rfl, by simp; exact hn.out⟩, (by repeat (first | exact below_alloc _ _ | refine below_then ?_ (below_alloc _ _)))⟩
  have fr : r1 = r2 := HR1.out.symm.trans ((congrArg (fun (t : List UInt8) => (⟨t.toArray⟩ : ByteArray)) e5).trans HR2.out)
  subst fr
  by_cases e6 : i1 = i2
  case neg =>
    have f : (i1 == i2) = false := by simpa using e6
    have hn : Hid (¬ X) := fun h => e6 (hX.out.1 h).2.1
    go_enter Tryd.func49, Tryd.ntmps49
    go_wp2
    all_goals go_ret
    all_goals exact ⟨⟨false, rfl, by simp; exact hn.out⟩, (by repeat (first | exact below_alloc _ _ | refine below_then ?_ (below_alloc _ _)))⟩
  subst e6
  have hX2 : Hid (X ↔ u1 = u2) := by show _ ↔ _; rw [hX.out]; simp [e5]
  clear hX HR1 HR2 e5
  go_enter Tryd.func49, Tryd.ntmps49
  go_wp2_with (go_at_call 91; refine (HE.out _ (H1.out.keep (below_then (below_alloc _ _) (below_alloc _ _))) (H2.out.keep (below_then (below_alloc _ _) (below_alloc _ _)))).mono ?_; rintro e w1 ⟨⟨t, rfl, ht⟩, hb1⟩; have HT := Lib.hid ht; clear ht)
  all_goals go_ret
  all_goals exact ⟨⟨t, rfl, HT.out.trans hX2.out.symm⟩, below_then (below_then (below_alloc _ _) (below_alloc _ _)) hb1⟩
set_option maxRecDepth 100000 in
set_option maxHeartbeats 4000000 in
theorem EqualFunc_c (a1 a2 : Option Addr) (n1 n2 c1 c2 : Nat) (xs ys : List OC.Dat) (w : World) (h1 : RdD w (.slice a1 n1 c1) xs) (h2 : RdD w (.slice a2 n2 c2) ys) (hm : ∀ d ∈ xs, d.words.length ≤ 140737488355328) :
    Calls Tryd.prog 48 #[.slice a1 n1 c1, .slice a2 n2 c2, (.func (.func 49) #[] #[])] w fun e w' => SaysB e (xs = ys) ∧ Below w.heap.size w w' := by
  obtain ⟨hl1, hk1, hm1⟩ := h1.len
  obtain ⟨hl2, hk2, hm2⟩ := h2.len
  have H1 := Lib.hid h1
  have H2 := Lib.hid h2
  have HX := Lib.hid hl1
  have HY := Lib.hid hl2
  have HM := Lib.hid hm
  have hb1 : n1 ≤ 140737488355328 := by omega
  clear h1 h2 hl1 hl2 hm
  by_cases hlen : n1 = n2
  · subst hlen
    clear hk2
    go_enter Tryd.func48, Tryd.ntmps48
    go_wp2
    go_loopw [17] (fun i wr => ∃ k : Nat, k ≤ n1 ∧ i = .int .i64 k ∧ Hid (xs.take k = ys.take k) ∧ Below w.heap.size w wr) (fun i _ => n1 - (intOf i).toNat)
    case atStart => exact ⟨0, Nat.zero_le _, rfl, (show Hid _ from (rfl : xs.take 0 = ys.take 0)), Below.refl _ _⟩
    case round =>
      obtain ⟨k, hk, rfl, hq, hnx⟩ := hrel
      by_cases hlt : k < n1
      · obtain ⟨-, b1, o1, rfl, p0, p1, v1, p2, p3⟩ := (show RdD wr (.slice a1 n1 c1) xs from H1.out.keep fun _ _ _ h => h.keep hnx).get hlt
        obtain ⟨-, b2, o2, rfl, q0, q1, v2, q2, q3⟩ := (show RdD wr (.slice a2 n1 c2) ys from H2.out.keep fun _ _ _ h => h.keep hnx).get hlt
        have k0 : (0 : Int) ≤ (k : Int) := by omega
        have k1 : (k : Int) < (n1 : Int) := by omega
        have hxm := HM.out _ (getD_map_range xs OC.dz (by rw [← HX.out]; exact hlt))
        obtain ⟨x, hx⟩ : ∃ x, xs.getD k OC.dz = x := ⟨_, rfl⟩
        obtain ⟨y, hy⟩ : ∃ y, ys.getD k OC.dz = y := ⟨_, rfl⟩
        rw [hx] at p0 p1 p3 hxm
        rw [hy] at q0 q1 q3
        have GX := Lib.hid hx
        have GY := Lib.hid hy
        have HS : Hid (∀ W, Rd .i64 W v1 x.words → Rd .i64 W v2 y.words → Calls Tryd.prog 49 #[.agg #[.string ⟨x.text.toArray⟩, .bool x.isText, v1], .agg #[.string ⟨y.text.toArray⟩, .bool y.isText, v2]] W fun e w' => SaysB e (x = y) ∧ Below W.heap.size W w') := fun W g1 g2 => sameAreaP_c x y v1 v2 W g1 g2 hxm
        have hne : Hid (¬ x = y → ¬ xs = ys) := fun h e => h (by rw [← GX.out, ← GY.out, e])
        have heq : Hid (x = y → xs.take (k + 1) = ys.take (k + 1)) := fun h => take_step (d := OC.dz) (by have := HX.out; omega) (by have := HY.out; omega) hq.out (by rw [GX.out, GY.out, h])
        clear hx hy GX GY
        obtain ⟨va, vc, rfl, g1, g2⟩ := p3
        obtain ⟨ua, uc, rfl, g3, g4⟩ := q3
        have HP : Hid (Rd .i64 wr (.slice va x.words.length vc) x.words) := ⟨va, vc, rfl, g1, g2⟩
        have HQ : Hid (Rd .i64 wr (.slice ua y.words.length uc) y.words) := ⟨ua, uc, rfl, g3, g4⟩
        obtain ⟨lx, hlx⟩ : ∃ n, x.words.length = n := ⟨_, rfl⟩
        obtain ⟨ly, hly⟩ : ∃ n, y.words.length = n := ⟨_, rfl⟩
        rw [hlx] at HP HS p2
        rw [hly] at HQ HS q2
        obtain ⟨X, hXX⟩ : ∃ p : Prop, (x = y) = p := ⟨_, rfl⟩
        rw [hXX] at HS hne heq
        obtain ⟨t1, i1, u1⟩ := x
        obtain ⟨t2, i2, u2⟩ := y
        dsimp only at p0 p1 q0 q1 HS HP HQ
        have bb1 : b1 < wr.heap.size := World.block_lt_of_cell? _ _ p0
        have bb2 : b2 < wr.heap.size := World.block_lt_of_cell? _ _ q0
        have bb3 : b1 < wr.heap.size + 1 := by omega
        have bb4 : b2 < wr.heap.size + 1 := by omega
        clear g1 g2 g3 g4 hlx hly hXX hxm
        by_cases hX : X
        · go_wp2_with (go_at_call 49; refine (HS.out _ (HP.out.keep (below_then (below_alloc _ _) (below_alloc _ _))) (HQ.out.keep (below_then (below_alloc _ _) (below_alloc _ _)))).mono ?_; rintro e w1 ⟨⟨t, rfl, ht⟩, hb1⟩; obtain rfl : t = true := ht.2 hX)
          all_goals go_roundw
          all_goals first | (case rel => exact ⟨k + 1, by omega, by go_num, heq.out hX, below_then (below_then (below_then hnx (below_alloc _ _)) (below_alloc _ _)) hb1⟩) | (simp [intOf]; omega)
        · go_wp2_with (go_at_call 49; refine (HS.out _ (HP.out.keep (below_then (below_alloc _ _) (below_alloc _ _))) (HQ.out.keep (below_then (below_alloc _ _) (below_alloc _ _)))).mono ?_; rintro e w1 ⟨⟨t, rfl, ht⟩, hb1⟩; obtain rfl : t = false := (by cases t with
            | false => rfl
            | true => exact absurd (ht.1 rfl) hX))
          all_goals go_ret
          all_goals exact ⟨⟨false, rfl, by simp; exact hne.out hX⟩, below_then (below_then (below_then hnx (below_alloc _ _)) (below_alloc _ _)) hb1⟩
      · obtain rfl : k = n1 := by omega
        have hd : Hid (xs = ys) := by
          have e := hq.out
          rwa [List.take_of_length_le (by have := HX.out; omega), List.take_of_length_le (by have := HY.out; omega)] at e
        go_wp2
        go_ret
        exact ⟨⟨_, rfl, by simp; exact hd.out⟩, hnx⟩
  · have hd : Hid (¬ xs = ys) := by
      intro h; subst h; exact hlen (HX.out.trans HY.out.symm)
    have hne : ((n1 : Int) != (n2 : Int)) = true := by simp; omega
    go_enter Tryd.func48, Tryd.ntmps48
    go_wp2
    go_ret
    exact ⟨⟨_, rfl, by simp; exact hd.out⟩, Below.refl _ _⟩
end Go.Proofs.YthlakfgpmggceaaDoor
