/- The room of procedures, in the document's words. -/
import Derived.Test.YthlakfgpmggceaaDoorOcJu
import Derived.Test.YthlakfgpmggceaaDoorLastJ
namespace Go.Proofs.YthlakfgpmggceaaDoor
open Go.RowKit
set_option linter.unusedVariables false
set_option linter.unusedSimpArgs false
def roomG : List OC.Op → List Int → List Int → List Int
  | o :: r, d :: ds, t =>
    let t1 := if o.op = 24 then t ++ [0] else t
    roomG r ds (t1.set (t1.length - 1) (max (max (t1.getD (t1.length - 1) 0) d) (OC.after o d)))
  | _, _, t => t
theorem depG_bd {ops : List OC.Op} {t : List Int} : ∀ {r : List OC.Op} {d : Int}, DeepOk ops t d r → (∀ o ∈ r, o.op = 24 → 0 ≤ o.m ∧ o.m ≤ 8) → 0 ≤ d → d ≤ 4000 → ∀ z ∈ depG d r, 0 ≤ z ∧ z ≤ 4000
  | [], d, _, _, _, _, z, hz => by simp [depG] at hz
  | o :: r, d, h, hm, h0, h1, z, hz => by
    rw [depG] at hz
    obtain ⟨n1, n2, n3⟩ := h.next (hm o (List.mem_cons_self ..))
    rcases List.mem_cons.1 hz with rfl | hz
    · split <;> omega
    · exact depG_bd n1 (fun x hx => hm x (List.mem_cons_of_mem _ hx)) n2 n3 z hz
theorem maxIf (a b : Int) : (if a < b then b else a) = max a b := by omega
theorem below_thenB' {w w1 w2 : World} {b : Nat} (h : Below b w w1) (k : Below w1.heap.size w1 w2) (hb : b ≤ w1.heap.size := by omega) : Below b w w2 := h.trans (k.mono hb)
theorem owns_pos {w : World} {base : Nat} {e : TypeId} {size : Nat} {v : Value} {n : Nat} {xs : List Value} (h : w.ownsRow base e size v n xs) (hn : 0 < n) : ∃ g cap, v = .slice (some ⟨g, 0, none⟩) n cap := by
  rcases h.2 with ⟨rfl, h0⟩ | ⟨g, cap, cur, rfl, _⟩
  · omega
  · exact ⟨_, _, rfl⟩
set_option maxRecDepth 100000 in
set_option maxHeartbeats 8000000 in
theorem RoomR_c (c : OC.Code) (da oa ga : Option Addr) (dl dc ol oc gl gc : Nat) (w : World) (hc : CodeIn w c da oa ga dl dc ol oc gl gc) (hs : Small c) :
    Calls Tryd.prog 23 #[codeV c da oa ga dl dc ol oc gl gc] w fun e w' => (∃ v, e = .returned (.tuple #[v, .int .i64 (checkE c : Nat)]) ∧ Rd .i64 w' v (if checkE c = 0 then roomG c.ops (depG 0 c.ops) [] else [])) ∧ Below w.heap.size w w' := by
  obtain ⟨hol, hoc, _⟩ := hc.ops.len
  have HC := Lib.hid hc
  have HO := Lib.hid hol
  have hol2 := hs.ops
  rw [← hol] at hol2
  obtain ⟨i0, h1, h2, h3, h4⟩ := info_parts int_info
  have hI : Tryd.prog.info? 3 = some i0 ∧ i0.zero = some (.int .i64 0) ∧ i0.size = 1 ∧ i0.bytes = 8 := ⟨h1, h2, h3, h4⟩
  have HI := Lib.hid hI
  clear h1 h2 h3 h4 hI
  obtain ⟨E, hE⟩ : ∃ E, checkE c = E := ⟨_, rfl⟩
  have HCK : Hid (∀ W, CodeIn W c da oa ga dl dc ol oc gl gc → Calls Tryd.prog 21 #[codeV c da oa ga dl dc ol oc gl gc] W fun e w' => (∃ v, e = .returned (.tuple #[v, .int .i64 (E : Int)]) ∧ Rd .i64 w' v (if E = 0 then depG 0 c.ops else [])) ∧ Below W.heap.size W w') := fun W hW => by have h := DepthsR_c c da oa ga dl dc ol oc gl gc W hW hs; rwa [hE] at h
  rw [hE]
  by_cases hE0 : E = 0
  case neg =>
    rw [if_neg hE0] at HCK ⊢
    have ee : ((E : Int) != 0) = true := by simp; omega
    obtain ⟨name, data, ops, globals, procs, labels⟩ := c
    clear hE hE0 hs hc hol
    go_enter Tryd.func23, Tryd.ntmps23
    go_wp2_with (go_at_call 21; refine (HCK.out _ (HC.out.keep (below_alloc _ _))).mono ?_; rintro e w1 ⟨⟨v1, rfl, hr1⟩, hb1⟩)
    go_ret2
    exact ⟨⟨_, rfl, Rd.nil _ _⟩, below_then (below_alloc _ _) hb1⟩
  subst hE0
  rw [if_pos rfl] at HCK ⊢
  obtain ⟨hnum, hord, _, _, _, _, t, _, _, hdp⟩ := checkE_ok hE
  have HN := Lib.hid hnum
  have HF := Lib.hid (order_first hord)
  have hen : ∀ o ∈ c.ops, o.op = 24 → 0 ≤ o.m ∧ o.m ≤ 8 := fun o ho e => by have := hnum o ho; obtain ⟨op, n, m⟩ := o; simp only at e; subst e; exact numB_enter this
  have HDB := Lib.hid (depG_bd (t := t) (ops := c.ops) ⟨_, _, hdp⟩ hen (Int.le_refl 0) (by omega))
  have HDL := Lib.hid (depG_len 0 c.ops)
  obtain ⟨name, data, ops, globals, procs, labels⟩ := c
  dsimp only at *
  obtain ⟨ds, hds⟩ : ∃ ds, depG 0 ops = ds := ⟨_, rfl⟩
  rw [hds] at HCK HDB HDL ⊢
  have hdl3 : ds.length = ol := by rw [HDL.out, HO.out]
  have HDL3 := Lib.hid hdl3
  clear hE hs hc hol hnum hord hdp hen hds hdl3
  go_enter Tryd.func23, Tryd.ntmps23
  go_wp2_with (go_at_call 21; refine (HCK.out _ (HC.out.keep (below_alloc _ _))).mono ?_; rintro e w1 ⟨⟨v1, rfl, hr1⟩, hb1⟩)
  have HB := Lib.hid ((BoxC.new w ⟨name, data, ops, globals, procs, labels⟩ da oa ga dl dc ol oc gl gc 26).keep hb1 (by simp))
  have HBL := Lib.hid (below_then (below_alloc w _) hb1)
  have hsz1 : w.heap.size < w1.heap.size := by have := hb1.size; simp at this; omega
  have HR1 := Lib.hid hr1
  obtain ⟨la, lc, rfl, _, _⟩ := hr1
  rw [HDL3.out] at HR1 ⊢
  clear hb1
  go_loopw [6, 7] (fun v i wr => ∃ (k n : Nat) (T : List Int), k ≤ ol ∧ i = .int .i64 k ∧ T.length = n ∧ n ≤ k ∧ (k = 0 ∨ 0 < n) ∧ wr.ownsRow w1.heap.size 3 1 v n (T.map (.int .i64)) ∧ Hid (roomG ops ds [] = roomG (ops.drop k) (ds.drop k) T) ∧ BoxC wr w.heap.size ⟨name, data, ops, globals, procs, labels⟩ da oa ga dl dc ol oc gl gc ∧ Below w1.heap.size w1 wr) (fun _ i _ => ol - (intOf i).toNat)
  case atStart => exact ⟨0, 0, [], Nat.zero_le _, rfl, rfl, Nat.le_refl _, .inl rfl, ⟨by simp, .inl ⟨rfl, rfl⟩⟩, (rfl : roomG ops ds [] = _), HB.out, Below.refl _ _⟩
  case round =>
    clear HB
    obtain ⟨k, n, T, hk, rfl, hTl, hnk, hkn, hown, hq, hbox, hbl⟩ := hrel
    have HBOX := Lib.hid hbox
    have hwz := hbox.lt
    obtain ⟨c0, c1, c2, c3, c4, c5⟩ := hbox
    obtain ⟨sa, sc, rfl⟩ := owns_form' hown
    by_cases hlt : k < ol
    · obtain ⟨hx1, b, off, rfl, hat⟩ := HC.out.ops.get hlt
      clear hx1
      have hbw : b < w.heap.size := World.block_lt_of_cell? _ _ hat.1
      obtain ⟨h0, h1, h2⟩ := hat.keep (below_then HBL.out hbl)
      obtain ⟨hx2, lb, lo, rfl, hl⟩ := HR1.out.get hlt
      clear hx2
      have hlbw : lb < w1.heap.size := World.block_lt_of_cell? _ _ hl
      have hl1 := (hbl.cell (p := ⟨lb, lo + k, none⟩) hlbw).trans hl
      have hkl : k < ops.length := by rw [← HO.out]; exact hlt
      have hd := dropAt (d := OC.oz) hkl
      have hdd := dropAt (d := (0 : Int)) (l := ds) (k := k) (by rw [HDL3.out]; exact hlt)
      have hmem := getD_map_range ops OC.oz hkl
      have hnb := HN.out _ hmem
      have hdz := HDB.out _ (getD_map_range ds 0 (by rw [HDL3.out]; exact hlt))
      have HP0 := Lib.hid (fun (e : k = 0) => show (ops.getD k OC.oz).op = 24 by subst e; exact HF.out (by omega))
      generalize ops.getD k OC.oz = x at *
      obtain ⟨D, hD⟩ : ∃ D, ds.getD k 0 = D := ⟨_, rfl⟩
      rw [hD] at hl1 hdd hdz
      obtain ⟨hdz1, hdz2⟩ := hdz
      have hbds := numB_bd hnb
      obtain ⟨A, hA⟩ : ∃ A, OC.after x D = A := ⟨_, rfl⟩
      have hAf : Hid (∀ W, Calls Tryd.prog 35 #[opVal x, .int .i64 D] W fun e w' => e = .returned (.int .i64 A) ∧ Below W.heap.size W w') := fun W => by have h := afterR_c x D W hbds.2.2.1 hbds.2.2.2.1 hbds.2.2.2.2.1 hbds.2.2.2.2.2 (by omega) (by omega); rwa [hA] at h
      obtain ⟨op, nn, m⟩ := x
      dsimp only at h0 h1 h2
      have k1 : (k : Int) < (ol : Int) := by omega
      have hkb : k ≤ 40100 := by omega
      by_cases h24 : op = 24
      · subst h24
        have hgb6 : ∀ g, (Value.slice sa n sc).ownBlock = some g → w1.heap.size ≤ g := fun g e => (hown.lt _ e).1
        have HNX : Hid (roomG ops ds [] = roomG (ops.drop (k + 1)) (ds.drop (k + 1)) ((T ++ [0]).set n (max (max 0 D) A))) := by
          show _ = _
          rw [hq.out, hd, hdd, roomG]
          simp [hTl, hA]
        have HTL : Hid ((T ++ [(0 : Int)]).length = n + 1) := by show _ = _; simp [hTl]
        have sep : ∀ (bb : Nat) (j : Nat), bb < w1.heap.size → some (⟨bb, j, none⟩ : Addr).block ≠ (Value.slice sa n sc).ownBlock := fun bb j hbb e => by have := hgb6 _ e.symm; simp at this; omega
        have SEP := Lib.hid sep
        have hwr1 : w1.heap.size ≤ wr.heap.size := hbl.size
        clear hgb6 sep hd hdd hq hD hA hnb hmem hbds hkn
        go_wp2_with (at_builtin; refine wpList_append_one rfl (.tmp 31) (.tmp 32) 34 rfl w1.heap.size 3 i0 .i64 8 Tryd.underlying34 HI.out (by decide) _ _ _ rfl hown _ rfl ?_ ?_ ?_)
        · omega
        intro v6 w6 hown6 hcl6 hbe6 hsz6 hob6
        have e0 := hcl6 _ _ h0 (SEP.out b 0 (by omega))
        have e1 := hcl6 _ _ h1 (SEP.out b 0 (by omega))
        have e2 := hcl6 _ _ h2 (SEP.out b 0 (by omega))
        have d2 := hcl6 _ _ c2 (SEP.out w.heap.size 0 (by omega))
        have l6 := hcl6 _ _ hl1 (SEP.out lb 0 (by omega))
        have HB6 : Hid (BoxC w6 w.heap.size ⟨name, data, ops, globals, procs, labels⟩ da (some ⟨b, off, none⟩) ga dl dc ol oc gl gc) := ⟨hcl6 _ _ c0 (SEP.out w.heap.size 0 (by omega)), hcl6 _ _ c1 (SEP.out w.heap.size 0 (by omega)), hcl6 _ _ c2 (SEP.out w.heap.size 0 (by omega)), hcl6 _ _ c3 (SEP.out w.heap.size 0 (by omega)), hcl6 _ _ c4 (SEP.out w.heap.size 0 (by omega)), hcl6 _ _ c5 (SEP.out w.heap.size 0 (by omega))⟩
        have kb := hbe6 _ _ hbl (by omega)
        have hwz6 : w.heap.size < w6.heap.size := by omega
        clear hcl6 hbe6 hob6 hown hbl h0 h1 h2 c0 c1 c2 c3 c4 c5 HBOX hl1
        obtain ⟨q, hqn⟩ : ∃ q, q = n := ⟨_, rfl⟩
        subst hqn
        obtain ⟨g, sc', rfl⟩ := owns_pos hown6 (by omega)
        have hcell : w6.cell? ⟨g, q, none⟩ = some (.int .i64 0) := by rw [hown6.cellAt q (by omega)]; simp [hTl]
        have hfz := hown6.frozenAt q
        have HOWN : Hid (w6.ownsRow w1.heap.size 3 1 (.slice (some ⟨g, 0, none⟩) (q + 1) sc') (q + 1) ((T ++ [(0 : Int)]).map (.int .i64))) := by show World.ownsRow _ _ _ _ _ _ _; simpa using hown6
        have hgb : w1.heap.size ≤ g ∧ g < w6.heap.size := hown6.lt _ rfl
        have q1 : (q : Int) < (q : Int) + 1 := by omega
        clear hown6
        go_wp2
        have m1 : ¬ g = lb := by omega
        have m2 : ¬ g = b := by omega
        have m3 : ¬ g = w.heap.size := by omega
        have m4 : g < w6.heap.size := hgb.2
        have l2 : (k : Int) < ((ol : Nat) : Int) := k1
        refine OrdJ.wp (S := (fun w' => w'.cell? ⟨g, q, none⟩ = some (.int .i64 0) ∧ w'.cell? ⟨lb, lo + k, none⟩ = some (.int .i64 D) ∧ w'.cell? ⟨w.heap.size, 2, none⟩ = some (.slice (some ⟨b, off, none⟩) ol oc) ∧ w'.cell? ⟨b, off + k * 3, none⟩ = some (.int .i64 24) ∧ w'.cell? ⟨b, off + k * 3 + 1, none⟩ = some (.int .i64 nn) ∧ w'.cell? ⟨b, off + k * 3 + 2, none⟩ = some (.int .i64 m))) 22 (by kernel_rfl) ?_ (fun hHeld => ?_)
        · go_keep
        refine OrdJ.take (i := 0) (v := ?vb0) (ch := [22]) rfl rfl (by kernel_rfl) (by kernel_rfl) (by kernel_rfl) (by kernel_rfl) (by kernel_rfl) (fun _ _ _ h => h) (Or.inl ⟨by rfl, ?hyb0⟩) (by assumption) ?restb0
        case hyb0 => (intro W hSw; (try dsimp only at hSw); go_simp; try with_reducible rfl)
        try simp only [Act.put, List.setIfInBounds_toArray, List.set_cons_zero, List.set_cons_succ]
        refine OrdJ.take (i := 1) (v := ?vb1) (ch := [22]) rfl rfl (by kernel_rfl) (by kernel_rfl) (by kernel_rfl) (by kernel_rfl) (by kernel_rfl) (fun _ _ _ h => h) (Or.inl ⟨by rfl, ?hyb1⟩) (by assumption) ?restb1
        case hyb1 => (intro W hSw; (try dsimp only at hSw); go_simp; try with_reducible rfl)
        try simp only [Act.put, List.setIfInBounds_toArray, List.set_cons_zero, List.set_cons_succ]
        refine OrdJ.take (i := 2) (v := ?vb2) (ch := [22]) rfl rfl (by kernel_rfl) (by kernel_rfl) (by kernel_rfl) (by kernel_rfl) (by kernel_rfl) (fun _ _ _ h => h) (Or.inl ⟨by rfl, ?hyb2⟩) (by assumption) ?restb2
        case hyb2 => (intro W hSw; (try dsimp only at hSw); go_simp; try with_reducible rfl)
        try simp only [Act.put, List.setIfInBounds_toArray, List.set_cons_zero, List.set_cons_succ]
        refine OrdJ.take (i := 3) (v := ?vb3) (ch := [22]) rfl rfl (by kernel_rfl) (by kernel_rfl) (by kernel_rfl) (by kernel_rfl) (by kernel_rfl) (fun _ _ _ h => h) (Or.inl ⟨by rfl, ?hyb3⟩) (by assumption) ?restb3
        case hyb3 => (intro W hSw; (try dsimp only at hSw); go_simp; try with_reducible rfl)
        try simp only [Act.put, List.setIfInBounds_toArray, List.set_cons_zero, List.set_cons_succ]
        refine OrdJ.take (i := 4) (v := ?vb4) (ch := [22]) rfl rfl (by kernel_rfl) (by kernel_rfl) (by kernel_rfl) (by kernel_rfl) (by kernel_rfl) (fun _ _ _ h => h) (Or.inl ⟨by rfl, ?hyb4⟩) (by assumption) ?restb4
        case hyb4 => (intro W hSw; (try dsimp only at hSw); go_simp; try with_reducible rfl)
        try simp only [Act.put, List.setIfInBounds_toArray, List.set_cons_zero, List.set_cons_succ]
        refine OrdJ.take (i := 5) (v := ?vb5) (ch := [22]) rfl rfl (by kernel_rfl) (by kernel_rfl) (by kernel_rfl) (by kernel_rfl) (by kernel_rfl) (fun _ _ _ h => h) (Or.inl ⟨by rfl, ?hyb5⟩) (by assumption) ?restb5
        case hyb5 => (intro W hSw; (try dsimp only at hSw); go_simp; try with_reducible rfl)
        try simp only [Act.put, List.setIfInBounds_toArray, List.set_cons_zero, List.set_cons_succ]
        refine OrdJ.take (i := 6) (v := ?vb6) (ch := [22]) rfl rfl (by kernel_rfl) (by kernel_rfl) (by kernel_rfl) (by kernel_rfl) (by kernel_rfl) (fun _ _ _ h => h) (Or.inl ⟨by rfl, ?hyb6⟩) (by assumption) ?restb6
        case hyb6 => (intro W hSw; (try dsimp only at hSw); go_simp; try with_reducible rfl)
        try simp only [Act.put, List.setIfInBounds_toArray, List.set_cons_zero, List.set_cons_succ]
        refine OrdJ.take (i := 7) (v := ?vb7) (ch := [22]) rfl rfl (by kernel_rfl) (by kernel_rfl) (by kernel_rfl) (by kernel_rfl) (by kernel_rfl) (fun _ _ _ h => h) (Or.inl ⟨by rfl, ?hyb7⟩) (by assumption) ?restb7
        case hyb7 => (intro W hSw; (try dsimp only at hSw); go_simp; try with_reducible rfl)
        try simp only [Act.put, List.setIfInBounds_toArray, List.set_cons_zero, List.set_cons_succ]
        refine OrdJ.take (i := 8) (v := ?vb8) (ch := [22]) rfl rfl (by kernel_rfl) (by kernel_rfl) (by kernel_rfl) (by kernel_rfl) (by kernel_rfl) (fun _ _ _ h => h) (Or.inl ⟨by rfl, ?hyb8⟩) (by assumption) ?restb8
        case hyb8 => (intro W hSw; (try dsimp only at hSw); go_simp; try with_reducible rfl)
        try simp only [Act.put, List.setIfInBounds_toArray, List.set_cons_zero, List.set_cons_succ]
        refine OrdJ.take (i := 9) (v := ?vb9) (ch := [22]) rfl rfl (by kernel_rfl) (by kernel_rfl) (by kernel_rfl) (by kernel_rfl) (by kernel_rfl) (fun _ _ _ h => h) (Or.inl ⟨by rfl, ?hyb9⟩) (by assumption) ?restb9
        case hyb9 => (intro W hSw; (try dsimp only at hSw); go_simp; try with_reducible rfl)
        try simp only [Act.put, List.setIfInBounds_toArray, List.set_cons_zero, List.set_cons_succ]
        refine OrdJ.take (i := 10) (v := ?vb10) (ch := [22]) rfl rfl (by kernel_rfl) (by kernel_rfl) (by kernel_rfl) (by kernel_rfl) (by kernel_rfl) (fun _ _ _ h => h) (Or.inl ⟨by rfl, ?hyb10⟩) (by assumption) ?restb10
        case hyb10 => (intro W hSw; (try dsimp only at hSw); go_simp; try with_reducible rfl)
        try simp only [Act.put, List.setIfInBounds_toArray, List.set_cons_zero, List.set_cons_succ]
        refine OrdJ.take (i := 11) (v := ?vb11) (ch := [22]) rfl rfl (by kernel_rfl) (by kernel_rfl) (by kernel_rfl) (by kernel_rfl) (by kernel_rfl) (fun _ _ _ h => h) (Or.inl ⟨by rfl, ?hyb11⟩) (by assumption) ?restb11
        case hyb11 => (intro W hSw; (try dsimp only at hSw); go_simp; try with_reducible rfl)
        try simp only [Act.put, List.setIfInBounds_toArray, List.set_cons_zero, List.set_cons_succ]
        refine OrdJ.take (i := 12) (v := ?vb12) (ch := [22]) rfl rfl (by kernel_rfl) (by kernel_rfl) (by kernel_rfl) (by kernel_rfl) (by kernel_rfl) (fun _ _ _ h => h) (Or.inl ⟨by rfl, ?hyb12⟩) (by assumption) ?restb12
        case hyb12 => (intro W hSw; (try dsimp only at hSw); go_simp; try with_reducible rfl)
        try simp only [Act.put, List.setIfInBounds_toArray, List.set_cons_zero, List.set_cons_succ]
        refine OrdJ.take (i := 13) (v := ?vb13) (ch := [22]) rfl rfl (by kernel_rfl) (by kernel_rfl) (by kernel_rfl) (by kernel_rfl) (by kernel_rfl) (fun _ _ _ h => h) (Or.inl ⟨by rfl, ?hyb13⟩) (by assumption) ?restb13
        case hyb13 => (intro W hSw; (try dsimp only at hSw); go_simp; try with_reducible rfl)
        try simp only [Act.put, List.setIfInBounds_toArray, List.set_cons_zero, List.set_cons_succ]
        refine OrdJ.take (i := 14) (v := ?vb14) (ch := [22]) rfl rfl (by kernel_rfl) (by kernel_rfl) (by kernel_rfl) (by kernel_rfl) (by kernel_rfl) (fun _ _ _ h => h) (Or.inl ⟨by rfl, ?hyb14⟩) (by assumption) ?restb14
        case hyb14 => (intro W hSw; (try dsimp only at hSw); go_simp; try with_reducible rfl)
        try simp only [Act.put, List.setIfInBounds_toArray, List.set_cons_zero, List.set_cons_succ]
        refine OrdJ.take (i := 15) (v := ?vb15) (ch := [22]) rfl rfl (by kernel_rfl) (by kernel_rfl) (by kernel_rfl) (by kernel_rfl) (by kernel_rfl) (fun _ _ _ h => h) (Or.inl ⟨by rfl, ?hyb15⟩) (by assumption) ?restb15
        case hyb15 => (intro W hSw; (try dsimp only at hSw); go_simp; try with_reducible rfl)
        try simp only [Act.put, List.setIfInBounds_toArray, List.set_cons_zero, List.set_cons_succ]
        refine OrdJ.take (i := 16) (v := ?vb16) (ch := [22]) rfl rfl (by kernel_rfl) (by kernel_rfl) (by kernel_rfl) (by kernel_rfl) (by kernel_rfl) (fun _ _ _ h => h) (Or.inl ⟨by rfl, ?hyb16⟩) (by assumption) ?restb16
        case hyb16 => (intro W hSw; (try dsimp only at hSw); go_simp; try with_reducible rfl)
        try simp only [Act.put, List.setIfInBounds_toArray, List.set_cons_zero, List.set_cons_succ]
        refine OrdJ.take (i := 17) (v := ?vb17) (ch := [22]) rfl rfl (by kernel_rfl) (by kernel_rfl) (by kernel_rfl) (by kernel_rfl) (by kernel_rfl) (fun _ _ _ h => h) (Or.inl ⟨by rfl, ?hyb17⟩) (by assumption) ?restb17
        case hyb17 => (intro W hSw; (try dsimp only at hSw); go_simp; try with_reducible rfl)
        try simp only [Act.put, List.setIfInBounds_toArray, List.set_cons_zero, List.set_cons_succ]
        refine OrdJ.take (i := 18) (v := ?vb18) (ch := [22]) rfl rfl (by kernel_rfl) (by kernel_rfl) (by kernel_rfl) (by kernel_rfl) (by kernel_rfl) (fun _ _ _ h => h) (Or.inl ⟨by rfl, ?hyb18⟩) (by assumption) ?restb18
        case hyb18 => (intro W hSw; (try dsimp only at hSw); go_simp; try with_reducible rfl)
        try simp only [Act.put, List.setIfInBounds_toArray, List.set_cons_zero, List.set_cons_succ]
        refine OrdJ.one (i := 19) (by kernel_rfl) rfl (fun K hK => ?_)
        go_simp
        go_at_call 35
        refine (hAf.out _).mono ?_
        rintro e w2 ⟨rfl, hb2⟩
        have hS2 : (fun w' => w'.cell? ⟨g, q, none⟩ = some (.int .i64 0) ∧ w'.cell? ⟨lb, lo + k, none⟩ = some (.int .i64 D) ∧ w'.cell? ⟨w.heap.size, 2, none⟩ = some (.slice (some ⟨b, off, none⟩) ol oc) ∧ w'.cell? ⟨b, off + k * 3, none⟩ = some (.int .i64 24) ∧ w'.cell? ⟨b, off + k * 3 + 1, none⟩ = some (.int .i64 nn) ∧ w'.cell? ⟨b, off + k * 3 + 2, none⟩ = some (.int .i64 m)) w2 := by
          (try dsimp only at hHeld ⊢); go_split_ands; refine ⟨?_, ?_, ?_, ?_, ?_, ?_⟩ <;> exact (hb2.cell (World.block_lt_of_cell? _ _ (by assumption))).trans (by assumption)
        have hf2 : w2.frozen? ⟨g, q, none⟩ = false := (hb2.frozen (p := ⟨g, q, none⟩) (by show g < w6.heap.size; exact m4)).trans hfz
        refine hK.out _ _ ⟨fun _ => hS2, ?_⟩
        clear hK K hHeld
        try simp only [Act.put, List.setIfInBounds_toArray, List.set_cons_zero, List.set_cons_succ]
        refine OrdJ.take (i := 20) (v := ?vb20) (ch := [22]) rfl rfl (by kernel_rfl) (by kernel_rfl) (by kernel_rfl) (by kernel_rfl) (by kernel_rfl) (fun _ _ _ h => h) (Or.inl ⟨by rfl, ?hyb20⟩) (by assumption) ?restb20
        case hyb20 => (intro W hSw; (try dsimp only at hSw); go_simp; try with_reducible rfl)
        try simp only [Act.put, List.setIfInBounds_toArray, List.set_cons_zero, List.set_cons_succ]
        refine OrdJ.take (i := 21) (v := ?vb21) (ch := [22]) rfl rfl (by kernel_rfl) (by kernel_rfl) (by kernel_rfl) (by kernel_rfl) (by kernel_rfl) (fun _ _ _ h => h) (Or.inl ⟨by rfl, ?hyb21⟩) (by assumption) ?restb21
        case hyb21 => (intro W hSw; (try dsimp only at hSw); go_simp; try with_reducible rfl)
        try simp only [Act.put, List.setIfInBounds_toArray, List.set_cons_zero, List.set_cons_succ]
        refine OrdJ.one (i := 22) (by kernel_rfl) rfl (fun K hK => ?_)
        have hc2 := hS2.1
        go_simp
        refine hK.out _ _ ⟨fun h => absurd rfl h, ?_⟩
        clear hK K
        try simp only [Act.put, List.setIfInBounds_toArray, List.set_cons_zero, List.set_cons_succ]
        refine OrdJ.done (by kernel_rfl) ?_
        have hb4 : Below w6.heap.size w6 w2 := below_then (Below.refl _ _).drew hb2
        go_wp2
        go_roundw
        case rel => simp only [maxIf]; exact ⟨k + 1, q + 1, (T ++ [0]).set q (max (max 0 D) A), by omega, by go_num, by rw [List.length_set]; exact HTL.out, by omega, .inr (by omega), by rw [List.map_set]; exact ((owns_keep' HOWN.out hb4).stored q (.int .i64 (max (max 0 D) A))).1, HNX, ⟨(set_other _ _ _ _ _ _ (by omega)).trans (HB6.out.keep hb4 hwz6).1, (set_other _ _ _ _ _ _ (by omega)).trans (HB6.out.keep hb4 hwz6).2.1, (set_other _ _ _ _ _ _ (by omega)).trans (HB6.out.keep hb4 hwz6).2.2.1, (set_other _ _ _ _ _ _ (by omega)).trans (HB6.out.keep hb4 hwz6).2.2.2.1, (set_other _ _ _ _ _ _ (by omega)).trans (HB6.out.keep hb4 hwz6).2.2.2.2.1, (set_other _ _ _ _ _ _ (by omega)).trans (HB6.out.keep hb4 hwz6).2.2.2.2.2⟩, (below_thenB' kb hb4).setCell (p := ⟨g, q, none⟩) (by show w1.heap.size ≤ g; omega) _⟩
        case measure => simp [intOf]; omega
      · have e24 : (op == 24) = false := by simpa using h24
        have hn0 : 0 < n := by
          rcases hkn with h | h
          · exact absurd (HP0.out h) h24
          · exact h
        obtain ⟨q, hqn⟩ : ∃ q, n = q + 1 := ⟨n - 1, by omega⟩
        subst hqn
        obtain ⟨g, sc', hv⟩ := owns_pos hown hn0
        simp only [Value.slice.injEq] at hv
        obtain ⟨rfl, _, rfl⟩ := hv
        have hcell : wr.cell? ⟨g, q, none⟩ = some (.int .i64 (T.getD q 0)) := by rw [hown.cellAt q (by omega)]; simp [hTl]
        have hfz := hown.frozenAt q
        have HOWN := Lib.hid hown
        have hgb : w1.heap.size ≤ g ∧ g < wr.heap.size := hown.lt _ rfl
        have HNX : Hid (roomG ops ds [] = roomG (ops.drop (k + 1)) (ds.drop (k + 1)) (T.set q (max (max (T.getD q 0) D) A))) := by
          show _ = _
          rw [hq.out, hd, hdd, roomG]
          simp only [if_neg h24, hTl, hA, Nat.add_sub_cancel]
        obtain ⟨z, hz⟩ : ∃ z, T.getD q 0 = z := ⟨_, rfl⟩
        rw [hz] at hcell HNX
        have HTL := Lib.hid hTl
        have q1 : (q : Int) < (q : Int) + 1 := by omega
        clear hd hdd hq hD hA hz hnb hmem hbds hkn hTl hown h24
        go_wp2
        have m1 : ¬ g = lb := by omega
        have m2 : ¬ g = b := by omega
        have m3 : ¬ g = w.heap.size := by omega
        have m4 : g < wr.heap.size := hgb.2
        have l2 : (k : Int) < ((ol : Nat) : Int) := k1
        clear c0 c1 c3 c4 c5
        refine OrdJ.wp (S := (fun w' => w'.cell? ⟨g, q, none⟩ = some (.int .i64 z) ∧ w'.cell? ⟨lb, lo + k, none⟩ = some (.int .i64 D) ∧ w'.cell? ⟨w.heap.size, 2, none⟩ = some (.slice (some ⟨b, off, none⟩) ol oc) ∧ w'.cell? ⟨b, off + k * 3, none⟩ = some (.int .i64 op) ∧ w'.cell? ⟨b, off + k * 3 + 1, none⟩ = some (.int .i64 nn) ∧ w'.cell? ⟨b, off + k * 3 + 2, none⟩ = some (.int .i64 m))) 22 (by kernel_rfl) ?_ (fun hHeld => ?_)
        · go_keep
        refine OrdJ.take (i := 0) (v := ?va0) (ch := [22]) rfl rfl (by kernel_rfl) (by kernel_rfl) (by kernel_rfl) (by kernel_rfl) (by kernel_rfl) (fun _ _ _ h => h) (Or.inl ⟨by rfl, ?hya0⟩) (by assumption) ?resta0
        case hya0 => (intro W hSw; (try dsimp only at hSw); go_simp; try with_reducible rfl)
        try simp only [Act.put, List.setIfInBounds_toArray, List.set_cons_zero, List.set_cons_succ]
        refine OrdJ.take (i := 1) (v := ?va1) (ch := [22]) rfl rfl (by kernel_rfl) (by kernel_rfl) (by kernel_rfl) (by kernel_rfl) (by kernel_rfl) (fun _ _ _ h => h) (Or.inl ⟨by rfl, ?hya1⟩) (by assumption) ?resta1
        case hya1 => (intro W hSw; (try dsimp only at hSw); go_simp; try with_reducible rfl)
        try simp only [Act.put, List.setIfInBounds_toArray, List.set_cons_zero, List.set_cons_succ]
        refine OrdJ.take (i := 2) (v := ?va2) (ch := [22]) rfl rfl (by kernel_rfl) (by kernel_rfl) (by kernel_rfl) (by kernel_rfl) (by kernel_rfl) (fun _ _ _ h => h) (Or.inl ⟨by rfl, ?hya2⟩) (by assumption) ?resta2
        case hya2 => (intro W hSw; (try dsimp only at hSw); go_simp; try with_reducible rfl)
        try simp only [Act.put, List.setIfInBounds_toArray, List.set_cons_zero, List.set_cons_succ]
        refine OrdJ.take (i := 3) (v := ?va3) (ch := [22]) rfl rfl (by kernel_rfl) (by kernel_rfl) (by kernel_rfl) (by kernel_rfl) (by kernel_rfl) (fun _ _ _ h => h) (Or.inl ⟨by rfl, ?hya3⟩) (by assumption) ?resta3
        case hya3 => (intro W hSw; (try dsimp only at hSw); go_simp; try with_reducible rfl)
        try simp only [Act.put, List.setIfInBounds_toArray, List.set_cons_zero, List.set_cons_succ]
        refine OrdJ.take (i := 4) (v := ?va4) (ch := [22]) rfl rfl (by kernel_rfl) (by kernel_rfl) (by kernel_rfl) (by kernel_rfl) (by kernel_rfl) (fun _ _ _ h => h) (Or.inl ⟨by rfl, ?hya4⟩) (by assumption) ?resta4
        case hya4 => (intro W hSw; (try dsimp only at hSw); go_simp; try with_reducible rfl)
        try simp only [Act.put, List.setIfInBounds_toArray, List.set_cons_zero, List.set_cons_succ]
        refine OrdJ.take (i := 5) (v := ?va5) (ch := [22]) rfl rfl (by kernel_rfl) (by kernel_rfl) (by kernel_rfl) (by kernel_rfl) (by kernel_rfl) (fun _ _ _ h => h) (Or.inl ⟨by rfl, ?hya5⟩) (by assumption) ?resta5
        case hya5 => (intro W hSw; (try dsimp only at hSw); go_simp; try with_reducible rfl)
        try simp only [Act.put, List.setIfInBounds_toArray, List.set_cons_zero, List.set_cons_succ]
        refine OrdJ.take (i := 6) (v := ?va6) (ch := [22]) rfl rfl (by kernel_rfl) (by kernel_rfl) (by kernel_rfl) (by kernel_rfl) (by kernel_rfl) (fun _ _ _ h => h) (Or.inl ⟨by rfl, ?hya6⟩) (by assumption) ?resta6
        case hya6 => (intro W hSw; (try dsimp only at hSw); go_simp; try with_reducible rfl)
        try simp only [Act.put, List.setIfInBounds_toArray, List.set_cons_zero, List.set_cons_succ]
        refine OrdJ.take (i := 7) (v := ?va7) (ch := [22]) rfl rfl (by kernel_rfl) (by kernel_rfl) (by kernel_rfl) (by kernel_rfl) (by kernel_rfl) (fun _ _ _ h => h) (Or.inl ⟨by rfl, ?hya7⟩) (by assumption) ?resta7
        case hya7 => (intro W hSw; (try dsimp only at hSw); go_simp; try with_reducible rfl)
        try simp only [Act.put, List.setIfInBounds_toArray, List.set_cons_zero, List.set_cons_succ]
        refine OrdJ.take (i := 8) (v := ?va8) (ch := [22]) rfl rfl (by kernel_rfl) (by kernel_rfl) (by kernel_rfl) (by kernel_rfl) (by kernel_rfl) (fun _ _ _ h => h) (Or.inl ⟨by rfl, ?hya8⟩) (by assumption) ?resta8
        case hya8 => (intro W hSw; (try dsimp only at hSw); go_simp; try with_reducible rfl)
        try simp only [Act.put, List.setIfInBounds_toArray, List.set_cons_zero, List.set_cons_succ]
        refine OrdJ.take (i := 9) (v := ?va9) (ch := [22]) rfl rfl (by kernel_rfl) (by kernel_rfl) (by kernel_rfl) (by kernel_rfl) (by kernel_rfl) (fun _ _ _ h => h) (Or.inl ⟨by rfl, ?hya9⟩) (by assumption) ?resta9
        case hya9 => (intro W hSw; (try dsimp only at hSw); go_simp; try with_reducible rfl)
        try simp only [Act.put, List.setIfInBounds_toArray, List.set_cons_zero, List.set_cons_succ]
        refine OrdJ.take (i := 10) (v := ?va10) (ch := [22]) rfl rfl (by kernel_rfl) (by kernel_rfl) (by kernel_rfl) (by kernel_rfl) (by kernel_rfl) (fun _ _ _ h => h) (Or.inl ⟨by rfl, ?hya10⟩) (by assumption) ?resta10
        case hya10 => (intro W hSw; (try dsimp only at hSw); go_simp; try with_reducible rfl)
        try simp only [Act.put, List.setIfInBounds_toArray, List.set_cons_zero, List.set_cons_succ]
        refine OrdJ.take (i := 11) (v := ?va11) (ch := [22]) rfl rfl (by kernel_rfl) (by kernel_rfl) (by kernel_rfl) (by kernel_rfl) (by kernel_rfl) (fun _ _ _ h => h) (Or.inl ⟨by rfl, ?hya11⟩) (by assumption) ?resta11
        case hya11 => (intro W hSw; (try dsimp only at hSw); go_simp; try with_reducible rfl)
        try simp only [Act.put, List.setIfInBounds_toArray, List.set_cons_zero, List.set_cons_succ]
        refine OrdJ.take (i := 12) (v := ?va12) (ch := [22]) rfl rfl (by kernel_rfl) (by kernel_rfl) (by kernel_rfl) (by kernel_rfl) (by kernel_rfl) (fun _ _ _ h => h) (Or.inl ⟨by rfl, ?hya12⟩) (by assumption) ?resta12
        case hya12 => (intro W hSw; (try dsimp only at hSw); go_simp; try with_reducible rfl)
        try simp only [Act.put, List.setIfInBounds_toArray, List.set_cons_zero, List.set_cons_succ]
        refine OrdJ.take (i := 13) (v := ?va13) (ch := [22]) rfl rfl (by kernel_rfl) (by kernel_rfl) (by kernel_rfl) (by kernel_rfl) (by kernel_rfl) (fun _ _ _ h => h) (Or.inl ⟨by rfl, ?hya13⟩) (by assumption) ?resta13
        case hya13 => (intro W hSw; (try dsimp only at hSw); go_simp; try with_reducible rfl)
        try simp only [Act.put, List.setIfInBounds_toArray, List.set_cons_zero, List.set_cons_succ]
        refine OrdJ.take (i := 14) (v := ?va14) (ch := [22]) rfl rfl (by kernel_rfl) (by kernel_rfl) (by kernel_rfl) (by kernel_rfl) (by kernel_rfl) (fun _ _ _ h => h) (Or.inl ⟨by rfl, ?hya14⟩) (by assumption) ?resta14
        case hya14 => (intro W hSw; (try dsimp only at hSw); go_simp; try with_reducible rfl)
        try simp only [Act.put, List.setIfInBounds_toArray, List.set_cons_zero, List.set_cons_succ]
        refine OrdJ.take (i := 15) (v := ?va15) (ch := [22]) rfl rfl (by kernel_rfl) (by kernel_rfl) (by kernel_rfl) (by kernel_rfl) (by kernel_rfl) (fun _ _ _ h => h) (Or.inl ⟨by rfl, ?hya15⟩) (by assumption) ?resta15
        case hya15 => (intro W hSw; (try dsimp only at hSw); go_simp; try with_reducible rfl)
        try simp only [Act.put, List.setIfInBounds_toArray, List.set_cons_zero, List.set_cons_succ]
        refine OrdJ.take (i := 16) (v := ?va16) (ch := [22]) rfl rfl (by kernel_rfl) (by kernel_rfl) (by kernel_rfl) (by kernel_rfl) (by kernel_rfl) (fun _ _ _ h => h) (Or.inl ⟨by rfl, ?hya16⟩) (by assumption) ?resta16
        case hya16 => (intro W hSw; (try dsimp only at hSw); go_simp; try with_reducible rfl)
        try simp only [Act.put, List.setIfInBounds_toArray, List.set_cons_zero, List.set_cons_succ]
        refine OrdJ.take (i := 17) (v := ?va17) (ch := [22]) rfl rfl (by kernel_rfl) (by kernel_rfl) (by kernel_rfl) (by kernel_rfl) (by kernel_rfl) (fun _ _ _ h => h) (Or.inl ⟨by rfl, ?hya17⟩) (by assumption) ?resta17
        case hya17 => (intro W hSw; (try dsimp only at hSw); go_simp; try with_reducible rfl)
        try simp only [Act.put, List.setIfInBounds_toArray, List.set_cons_zero, List.set_cons_succ]
        refine OrdJ.take (i := 18) (v := ?va18) (ch := [22]) rfl rfl (by kernel_rfl) (by kernel_rfl) (by kernel_rfl) (by kernel_rfl) (by kernel_rfl) (fun _ _ _ h => h) (Or.inl ⟨by rfl, ?hya18⟩) (by assumption) ?resta18
        case hya18 => (intro W hSw; (try dsimp only at hSw); go_simp; try with_reducible rfl)
        try simp only [Act.put, List.setIfInBounds_toArray, List.set_cons_zero, List.set_cons_succ]
        refine OrdJ.one (i := 19) (by kernel_rfl) rfl (fun K hK => ?_)
        go_simp
        go_at_call 35
        refine (hAf.out _).mono ?_
        rintro e w2 ⟨rfl, hb2⟩
        have hS2 : (fun w' => w'.cell? ⟨g, q, none⟩ = some (.int .i64 z) ∧ w'.cell? ⟨lb, lo + k, none⟩ = some (.int .i64 D) ∧ w'.cell? ⟨w.heap.size, 2, none⟩ = some (.slice (some ⟨b, off, none⟩) ol oc) ∧ w'.cell? ⟨b, off + k * 3, none⟩ = some (.int .i64 op) ∧ w'.cell? ⟨b, off + k * 3 + 1, none⟩ = some (.int .i64 nn) ∧ w'.cell? ⟨b, off + k * 3 + 2, none⟩ = some (.int .i64 m)) w2 := by
          (try dsimp only at hHeld ⊢); go_split_ands; refine ⟨?_, ?_, ?_, ?_, ?_, ?_⟩ <;> exact (hb2.cell (World.block_lt_of_cell? _ _ (by assumption))).trans (by assumption)
        have hf2 : w2.frozen? ⟨g, q, none⟩ = false := (hb2.frozen (p := ⟨g, q, none⟩) (by show g < wr.heap.size; exact m4)).trans hfz
        refine hK.out _ _ ⟨fun _ => hS2, ?_⟩
        clear hK K hHeld
        try simp only [Act.put, List.setIfInBounds_toArray, List.set_cons_zero, List.set_cons_succ]
        refine OrdJ.take (i := 20) (v := ?va20) (ch := [22]) rfl rfl (by kernel_rfl) (by kernel_rfl) (by kernel_rfl) (by kernel_rfl) (by kernel_rfl) (fun _ _ _ h => h) (Or.inl ⟨by rfl, ?hya20⟩) (by assumption) ?resta20
        case hya20 => (intro W hSw; (try dsimp only at hSw); go_simp; try with_reducible rfl)
        try simp only [Act.put, List.setIfInBounds_toArray, List.set_cons_zero, List.set_cons_succ]
        refine OrdJ.take (i := 21) (v := ?va21) (ch := [22]) rfl rfl (by kernel_rfl) (by kernel_rfl) (by kernel_rfl) (by kernel_rfl) (by kernel_rfl) (fun _ _ _ h => h) (Or.inl ⟨by rfl, ?hya21⟩) (by assumption) ?resta21
        case hya21 => (intro W hSw; (try dsimp only at hSw); go_simp; try with_reducible rfl)
        try simp only [Act.put, List.setIfInBounds_toArray, List.set_cons_zero, List.set_cons_succ]
        refine OrdJ.one (i := 22) (by kernel_rfl) rfl (fun K hK => ?_)
        have hc2 := hS2.1
        go_simp
        refine hK.out _ _ ⟨fun h => absurd rfl h, ?_⟩
        clear hK K
        try simp only [Act.put, List.setIfInBounds_toArray, List.set_cons_zero, List.set_cons_succ]
        refine OrdJ.done (by kernel_rfl) ?_
        have hb4 : Below wr.heap.size wr w2 := below_then (Below.refl _ _).drew hb2
        go_wp2
        go_roundw
        case rel => simp only [maxIf]; exact ⟨k + 1, q + 1, (T).set q (max (max z D) A), by omega, by go_num, by rw [List.length_set]; exact HTL.out, by omega, .inr (by omega), by rw [List.map_set]; exact ((owns_keep' HOWN.out hb4).stored q (.int .i64 (max (max z D) A))).1, HNX, ⟨(set_other _ _ _ _ _ _ (by omega)).trans (HBOX.out.keep hb4 hwz).1, (set_other _ _ _ _ _ _ (by omega)).trans (HBOX.out.keep hb4 hwz).2.1, (set_other _ _ _ _ _ _ (by omega)).trans (HBOX.out.keep hb4 hwz).2.2.1, (set_other _ _ _ _ _ _ (by omega)).trans (HBOX.out.keep hb4 hwz).2.2.2.1, (set_other _ _ _ _ _ _ (by omega)).trans (HBOX.out.keep hb4 hwz).2.2.2.2.1, (set_other _ _ _ _ _ _ (by omega)).trans (HBOX.out.keep hb4 hwz).2.2.2.2.2⟩, (below_thenB' hbl hb4).setCell (p := ⟨g, q, none⟩) (by show w1.heap.size ≤ g; omega) _⟩
        case measure => simp [intOf]; omega
    · obtain rfl : ol = k := by omega
      have HF : Hid (roomG ops ds [] = T) := by
        show _ = _
        rw [hq.out, List.drop_eq_nil_of_le (by rw [← HO.out]; exact Nat.le_refl _)]; rfl
      have HTL := Lib.hid hTl
      clear hq hTl
      go_wp2
      go_ret2
      exact ⟨⟨_, rfl, by rw [HF.out]; exact Rd.of_owns hown (by rw [HTL.out]; omega)⟩, below_then HBL.out hbl⟩
end Go.Proofs.YthlakfgpmggceaaDoor
