/- Code without one of its procedures, as the law makes it. -/
import Derived.Test.YtfnkafnjpldaoaaDoorOcCp
import Derived.Test.YtfnkafnjpldaoaaDoorOcWt
import Derived.Test.YtfnkafnjpldaoaaDoorLastJ
namespace Go.Proofs.YtfnkafnjpldaoaaDoor
open Go.RowKit
set_option linter.unusedVariables false
set_option linter.unusedSimpArgs false
theorem takeH {P : Program} {ops : Array Oper} {Q : Exit → Act → World → Prop} {md : Region.Mode} {S : World → Prop} {i : Nat} {d : Tmp} {oi : Oper} {v : Value} {fuel : Nat} {listed : Array Bool} {a : Act} {w : World} (hi : ops[i]? = some oi) (hd : oi.dst = some d)
    (hs : Region.noSelect ops = true) (hf : Region.free md ops listed i = true) (hr : (Region.ready md ops listed).contains i = true)
    (hQ : ∀ c a w, Q (.panic c) (a.put (some d) v) w → Q (.panic c) a w) (hy : YieldsIf P ops S oi v a) (hS : S w)
    (h : wpAnyH P md ops Q S fuel (listed.setIfInBounds i true) (a.put (some d) v) w) : wpAnyH P md ops Q S (fuel + 1) listed a w :=
  wpAnyH_take hi hs hf hr (by rw [hd]; exact hQ) hy hS (by rw [hd]; exact h)
/-- a list of numbers put behind one that is one's own, inside a drawn region; guarded or not -/
theorem step_append_list {P : Program} {w : World} {ops : Array Oper} {o : Oper} {a : Act} {K : Act → World → Prop} {Q : Exit → Act → World → Prop} {E : Prop} (hw : Region.wanted o (yielded ops a.tmps) = true) (s x : Operand) (t : TypeId)
    (ho : o.op = .call { callee := .builtin .append, args := #[s, x], argTypes := #[t, t] })
    (base : Nat) (e : TypeId) (i : TypeInfo) (k : IntKind) (bytes : Nat) (ht : P.underlying t = some (.slice e)) (hI : P.info? e = some i ∧ i.zero = some (.int k 0) ∧ i.size = 1 ∧ i.bytes = bytes) (hby : bytes ≤ 8)
    (v : Value) (n : Nat) (ys : List Int) (hs : a.eval s = v) (hown : w.ownsRow base e 1 v n (ys.map (.int k))) (ad : Option Addr) (m c : Nat) (xs : List Int) (hx : a.eval x = .slice ad m c) (hm : xs.length = m)
    (hc : SrcC w ad m c (xs.map (.int k)))
    (hn : n + m ≤ 4294967296) (hbase : base ≤ w.heap.size)
    (h : ∀ v' w', w'.ownsRow base e 1 v' (n + m) ((ys ++ xs).map (.int k)) → w.grownBy w' v.ownBlock → K (a.put o.dst v') w') :
    if Region.wanted o (yielded ops a.tmps) = true then Oper.wp P o a w K Q else E := by
  rw [if_pos hw]
  obtain ⟨h1, h2, h3, h4⟩ := hI
  rcases hc with ⟨rfl, rfl, hx0⟩ | ⟨p, rfl, hc⟩
  · have hx0 : xs = [] := List.length_eq_zero_iff.1 hm
    subst hx0
    have hrun := run_append_none_cap (P := P) (w := w) base t o.type e i 1 ht h1 v n _ hown c
    unfold Oper.wp
    simp [execOp, ho, resolve, invoke, builtin, hs, hx, hrun, Result.andThen]
    exact h v w (by simpa using hown) ⟨rfl, rfl, rfl, Nat.le_refl _, fun _ _ _ => rfl⟩
  · have hbb : (n + m) * bytes ≤ 4294967296 * 8 := Nat.mul_le_mul hn hby
    refine wp_append_own w s x t ho base e i (.int k 0) 1 bytes ht h1 h2 h3 h4 rfl (by decide) v n _ hs hown p m c (xs.map (.int k)) hx (by simp [hm]) hc (fun u hu => by obtain ⟨y, _, rfl⟩ := List.mem_map.1 hu; rfl) (by unfold maxLen; omega) (by omega) hbase ?_
    intro v' w' hown' hgr _
    exact h v' w' (by rw [List.map_append]; exact hown') hgr
theorem srcC_keep {w w' : World} {ad : Option Addr} {m c : Nat} {cs : List Value} (h : SrcC w ad m c cs) (hb : Below w.heap.size w w') : SrcC w' ad m c cs := by
  rcases h with h | ⟨p, h1, h2⟩
  · exact .inl h
  · exact .inr ⟨p, h1, fun j u hu => (hb.cell (World.block_lt_of_cell? _ _ (h2 j u hu))).trans (h2 j u hu)⟩
/-- the parts of a list of numbers, as slices of it: before place q, and behind it -/
theorem srcC_part {w : World} {ra : Option Addr} {n rc q : Nat} {M : List Int} (h : Rd .i64 w (.slice ra n rc) M) (hM : M.length = n) (hq : q + 1 ≤ n) (hc : n ≤ rc) :
    SrcC w ra q rc ((M.take q).map (.int .i64)) ∧ SrcC w (if rc = q + 1 then ra else Option.map (fun x => (⟨x.block, x.off + (q + 1), none⟩ : Addr)) ra) (n - (q + 1)) (rc - (q + 1)) ((M.drop (q + 1)).map (.int .i64)) := by
  obtain ⟨a, cap, hv, _, h⟩ := h
  simp only [Value.slice.injEq] at hv
  obtain ⟨rfl, _, rfl⟩ := hv
  rcases h with h | ⟨b, off, rfl, hat⟩
  · rw [h] at hM; simp at hM; omega
  refine ⟨.inr ⟨_, rfl, fun j u hu => ?_⟩, ?_⟩
  · rw [add_plain']
    have hj : j < ((M.take q).map (Value.int .i64)).length := (List.getElem?_eq_some_iff.1 hu).1
    simp at hj
    have hj1 : j < q := by omega
    have hj2 : j < M.length := by omega
    rw [hat j hj2]
    simp [hj1, hj2] at hu
    simp [hj2, hu]
  · by_cases hrc : rc = q + 1
    · rw [if_pos hrc]
      refine .inr ⟨_, rfl, fun j u hu => ?_⟩
      have hj : j < ((M.drop (q + 1)).map (Value.int .i64)).length := (List.getElem?_eq_some_iff.1 hu).1
      simp at hj; omega
    · rw [if_neg hrc]
      refine .inr ⟨_, rfl, fun j u hu => ?_⟩
      have hj : j < ((M.drop (q + 1)).map (Value.int .i64)).length := (List.getElem?_eq_some_iff.1 hu).1
      simp at hj
      have hj2 : q + 1 + j < M.length := by omega
      rw [add_plain', show off + (q + 1) + j = off + (q + 1 + j) by omega, hat _ hj2]
      simp [hj2] at hu
      simp [hj2, hu]
theorem curq_snoc {l : List OC.Op} {k : Nat} {q : Int} (h : k < l.length) : curq q (l.take (k + 1)) = nxq (curq q (l.take k)) (l.getD k OC.oz) := by
  rw [List.take_succ_eq_append_getElem h, curq_append, getD_at h]; rfl
theorem wth_snoc {p : Int} {l : List OC.Op} {k : Nat} {q : Int} (h : k < l.length) : wth p q (l.take (k + 1)) = if nxq (curq q (l.take k)) (l.getD k OC.oz) = p then wth p q (l.take k) else wth p q (l.take k) ++ [shp p (l.getD k OC.oz)] := by
  rw [List.take_succ_eq_append_getElem h, wth_append, getD_at h]
  simp only [wth]
  split <;> simp
theorem lmx_append : ∀ (A B : List OC.Op) (a : Int), lmx a (A ++ B) = lmx (lmx a A) B
  | [], B, a => rfl
  | o :: r, B, a => by rw [List.cons_append, lmx, lmx, lmx_append r B]
theorem lmx_snoc {l : List OC.Op} {k : Nat} {a : Int} (h : k < l.length) : lmx a (l.take (k + 1)) = if (l.getD k OC.oz).op = 19 then max (lmx a (l.take k)) (l.getD k OC.oz).n else lmx a (l.take k) := by
  rw [List.take_succ_eq_append_getElem h, lmx_append, getD_at h]; rfl
theorem dsl_app (p : Int) : ∀ (A : List OC.Op) (DA : List Int) (q : Int) (o : OC.Op) (d : Int), DA.length = A.length → dsl p q (A ++ [o]) (DA ++ [d]) = dsl p q A DA ++ (if nxq (curq q A) o = p then [] else [d])
  | [], [], q, o, d, _ => by by_cases h : nxq q o = p <;> simp [dsl, curq, h]
  | [], x :: r, q, o, d, h => by simp at h
  | x :: r, [], q, o, d, h => by simp at h
  | x :: r, y :: s, q, o, d, h => by
    simp only [List.cons_append, dsl, curq]
    rw [dsl_app p r s _ o d (by simpa using h)]
    by_cases h : nxq q x = p
    · (rw [if_pos h, if_pos h]) <;> rfl
    · (rw [if_neg h, if_neg h]) <;> rfl
theorem dsl_snoc {p : Int} {l : List OC.Op} {D : List Int} {k : Nat} {q : Int} (h : k < l.length) (hD : D.length = l.length) : dsl p q (l.take (k + 1)) (D.take (k + 1)) = dsl p q (l.take k) (D.take k) ++ (if nxq (curq q (l.take k)) (l.getD k OC.oz) = p then [] else [D.getD k 0]) := by
  rw [List.take_succ_eq_append_getElem h, List.take_succ_eq_append_getElem (by rw [hD]; exact h), dsl_app p _ _ _ _ _ (by simp [hD]), getD_at h, getD_at (by rw [hD]; exact h)]
theorem shp_cases (p op n m : Int) : shp p ⟨op, n, m⟩ = if (op = 24 ∨ op = 11) ∧ p < n then ⟨op, n - 1, m⟩ else if op = 11 ∧ n = p then ⟨op, 1, m⟩ else ⟨op, n, m⟩ := rfl
theorem box_one {w : World} {b : Nat} {c c' : OC.Code} {da oa ga da' oa' ga' : Option Addr} {dl dc ol oc gl gc dl' dc' ol' oc' gl' gc' : Nat} {j : Nat} {v : Value} (h : BoxC w b c da oa ga dl dc ol oc gl gc) (hj : j < 6)
    (h0 : (if j = 0 then v else .string ⟨c.name.toArray⟩) = .string ⟨c'.name.toArray⟩) (h1 : (if j = 1 then v else .slice da dl dc) = .slice da' dl' dc') (h2 : (if j = 2 then v else .slice oa ol oc) = .slice oa' ol' oc') (h3 : (if j = 3 then v else .slice ga gl gc) = .slice ga' gl' gc')
    (h4 : (if j = 4 then v else .int .i64 c.procs) = .int .i64 c'.procs) (h5 : (if j = 5 then v else .int .i64 c.labels) = .int .i64 c'.labels) : BoxC (w.setCell ⟨b, j, none⟩ v) b c' da' oa' ga' dl' dc' ol' oc' gl' gc' := by
  obtain ⟨k0, k1, k2, k3, k4, k5⟩ := h
  have key : ∀ (i : Nat) (u : Value), w.cell? ⟨b, i, none⟩ = some u → (w.setCell ⟨b, j, none⟩ v).cell? ⟨b, i, none⟩ = some (if j = i then v else u) := fun i u hu => by
    by_cases e : j = i
    · subst e; rw [if_pos rfl]; exact World.cell?_setCell_same _ _ _ hu
    · rw [if_neg e]; exact (World.cell?_setCell_other _ _ _ _ (fun hh => by injection hh with _ hh; exact e hh)).trans hu
  exact ⟨h0 ▸ key 0 _ k0, h1 ▸ key 1 _ k1, h2 ▸ key 2 _ k2, h3 ▸ key 3 _ k3, h4 ▸ key 4 _ k4, h5 ▸ key 5 _ k5⟩
theorem BoxC.off {w w' : World} {b : Nat} {c : OC.Code} {da oa ga : Option Addr} {dl dc ol oc gl gc : Nat} (h : BoxC w b c da oa ga dl dc ol oc gl gc) (hc : ∀ j u, w.cell? ⟨b, j, none⟩ = some u → w'.cell? ⟨b, j, none⟩ = some u) : BoxC w' b c da oa ga dl dc ol oc gl gc :=
  ⟨hc _ _ h.1, hc _ _ h.2.1, hc _ _ h.2.2.1, hc _ _ h.2.2.2.1, hc _ _ h.2.2.2.2.1, hc _ _ h.2.2.2.2.2⟩
set_option maxRecDepth 100000 in
set_option maxHeartbeats 16000000 in
theorem without_c (c : OC.Code) (p : Int) (da oa ga : Option Addr) (dl dc ol oc gl gc : Nat) (w : World) (hc : CodeIn w c da oa ga dl dc ol oc gl gc) (hs : Small c) (hE : checkE c = 0) (hp : 1 ≤ p) (hp2 : p ≤ c.procs) :
    Calls Tryd.prog 7 #[codeV c da oa ga dl dc ol oc gl gc, .int .i64 p] w fun e w' => (∃ da' oa' dl' dc' ol' oc', e = .returned (codeV (wthC c p) da' oa' none dl' dc' ol' oc' 0 0) ∧ CodeIn w' (wthC c p) da' oa' none dl' dc' ol' oc' 0 0) ∧ Below w.heap.size w w' := by
  obtain ⟨hol, hoc, _⟩ := hc.ops.len
  obtain ⟨hnum, hord, hl0, hl1, hp0, hp1, _⟩ := checkE_ok hE
  have HC := Lib.hid hc
  have HO := Lib.hid hol
  have hol2 := hs.ops
  rw [← hol] at hol2
  have HS := Lib.hid hs
  have HN := Lib.hid hnum
  obtain ⟨i1, g1, g2, g3, g4⟩ := info_parts op_info
  have hI1 : Tryd.prog.info? 35 = some i1 ∧ i1.zero = some (.agg #[.int .i64 0, .int .i64 0, .int .i64 0]) ∧ i1.size = 3 ∧ i1.bytes = 24 := ⟨g1, g2, g3, g4⟩
  have HI1 := Lib.hid hI1
  clear g1 g2 g3 g4 hI1
  have HCP : Hid (∀ W, CodeIn W c da oa ga dl dc ol oc gl gc → Calls Tryd.prog 13 #[codeV c da oa ga dl dc ol oc gl gc] W fun e w' => CopyR c W.heap.size e w' ∧ Below W.heap.size W w') := fun W hW => CopyCode_c _ da oa ga dl dc ol oc gl gc W hW hs.ops hs.globals (by have := hs.weight; have := wsum_len c.data; omega) (fun d hd => by have := hs.weight; have := wsum_at hd; omega)
  obtain ⟨R, hR⟩ : ∃ R, wthC c p = R := ⟨_, rfl⟩
  rw [hR]
  have HR := Lib.hid hR
  obtain ⟨name, data, ops, globals, procs, labels⟩ := c
  dsimp only at *
  clear hE hs hc hol hnum hord hR
  go_enter Tryd.func7, Tryd.ntmps7
  go_wp2_with (go_at_call 13; refine (HCP.out _ (HC.out.keep (below_then (below_alloc _ _) (below_alloc _ _)))).mono ?_; rintro e w4 ⟨⟨da', oa', ga', dl', dc', ol', oc', gl', gc', rfl, hin4, hown4, hap4⟩, hb4⟩)
  have hl4 : ol' = ol := by rw [hin4.ops.len.1]; exact HO.out.symm
  subst hl4
  have z4 := hb4.size
  have HB4 : Hid (BoxC w4 w.heap.size ⟨name, data, ops, globals, procs, labels⟩ da oa ga dl dc ol' oc gl gc) := ((BoxC.new w ⟨name, data, ops, globals, procs, labels⟩ da oa ga dl dc ol' oc gl gc 26).keep (below_alloc _ _) (by simp)).keep hb4 (by simp; omega)
  have HZ4 : Hid (BoxC w4 (w.heap.size + 1) OC.cz none none none 0 0 0 0 0 0 ∧ ∀ o, w4.frozen? ⟨w.heap.size + 1, o, none⟩ = false) := by
    have ZB0 := BoxC.new (w.alloc (.cells #[.string ⟨name.toArray⟩, .slice da dl dc, .slice oa ol' oc, .slice ga gl gc, .int .i64 procs, .int .i64 labels] 26)) OC.cz none none none 0 0 0 0 0 0 26
    have e1 : (w.alloc (.cells #[.string ⟨name.toArray⟩, .slice da dl dc, .slice oa ol' oc, .slice ga gl gc, .int .i64 procs, .int .i64 labels] 26)).heap.size = w.heap.size + 1 := by simp
    rw [e1] at ZB0
    exact ⟨ZB0.keep hb4 (by simp), fun o => (hb4.frozen (p := ⟨w.heap.size + 1, o, none⟩) (by simp)).trans (by simp [go_sem])⟩
  have HL4 : Hid (Below w.heap.size w w4) := below_then (below_then (below_alloc _ _) (below_alloc _ _)) hb4
  have HA4 : Hid (∀ wz : World, (∀ q x, w.heap.size + 2 ≤ q.block → w4.cell? q = some x → wz.cell? q = some x) → RdD wz (.slice da' dl' dc') data) := fun wz hz => (hap4 wz (fun q x hbb hq _ => hz q x (by simp at hbb; omega) hq)).1
  simp only [World.size_alloc] at z4
  obtain ⟨h, hh⟩ : ∃ h, w4.heap.size = h := ⟨_, rfl⟩
  have HH := Lib.hid hh
  have hwh : w.heap.size + 1 < h := by omega
  generalize hW5 : w4.alloc (.cells #[.string ⟨name.toArray⟩, .slice da' dl' dc', .slice none 0 0, .slice ga' gl' gc', .int .i64 procs, .int .i64 labels] 26) = w5
  rw [hh]
  have HD5 : Hid (BoxC w5 h ⟨name, data, ops, globals, procs, labels⟩ da' none ga' dl' dc' 0 0 gl' gc') := by
    rw [← hW5, ← hh]
    exact BoxC.new w4 ⟨name, data, ops, globals, procs, labels⟩ da' none ga' dl' dc' 0 0 gl' gc' _
  have HB5 : Hid (Below h w4 w5) := by
    rw [← hW5, ← hh]
    exact below_alloc w4 _
  have HF5 : Hid (∀ o, w5.frozen? ⟨h, o, none⟩ = false) := fun o => by rw [← hW5, ← hh]; simp [go_sem]
  clear hW5 hin4 hown4 hap4 hb4 hh z4
  go_loopw [6, 7, 8] (fun pr i o wr => ∃ (k n : Nat) (Q : Int) (sa : Option Addr) (sc : Nat), k ≤ ol' ∧ n ≤ k ∧ i = .int .i64 k ∧ pr = .int .i64 Q ∧ Hid (Q = curq 0 (ops.take k)) ∧ wr.ownsRow (h + 1) 35 3 (.slice sa n sc) n (opCells (wth p 0 (ops.take k))) ∧ BoxC wr h ⟨name, data, ops, globals, procs, labels⟩ da' sa ga' dl' dc' n sc gl' gc' ∧ Hid (∀ o, wr.frozen? ⟨h, o, none⟩ = false) ∧ Below h w4 wr) (fun _ i _ _ => ol' - (intOf i).toNat)
  case atStart => exact ⟨0, 0, 0, none, 0, Nat.zero_le _, Nat.le_refl _, rfl, rfl, (show Hid ((0 : Int) = curq 0 (ops.take 0)) from rfl), ⟨by simp [wth, opCells], .inl ⟨rfl, rfl⟩⟩, HD5.out, HF5, HB5.out⟩
  case round =>
    clear HD5 HF5 HB5
    obtain ⟨k, n, Q, sa, sc, hk, hnk, rfl, rfl, hQ, hown, hbox, hfz, hbl⟩ := hrel
    have HOWN := Lib.hid hown
    have HBOX := Lib.hid hbox
    have HBL := Lib.hid hbl
    have hhr : h < wr.heap.size := hbox.lt
    have hwr : w.heap.size < wr.heap.size := by omega
    obtain ⟨c0, c1, c2, c3, c4, c5⟩ := HB4.out.keep hbl (by omega)
    obtain ⟨d0, d1, d2, d3, d4, d5⟩ := hbox
    by_cases hlt : k < ol'
    · obtain ⟨hx1, b, off, rfl, hat⟩ := HC.out.ops.get hlt
      clear hx1
      have hbw : b < w.heap.size := World.block_lt_of_cell? _ _ hat.1
      obtain ⟨h0, h1, h2⟩ := hat.keep (below_thenB' HL4.out (hbl.mono (by rw [HH.out]; exact Nat.le_refl _)) (by rw [HH.out]; omega))
      have hkl : k < ops.length := by rw [← HO.out]; exact hlt
      have hnb := HN.out _ (getD_map_range ops OC.oz hkl)
      have hqs := curq_snoc (q := 0) hkl
      have hws := wth_snoc (p := p) (q := 0) hkl
      rw [← hQ.out] at hqs hws
      generalize ops.getD k OC.oz = x at *
      have hbds := numB_bd hnb
      obtain ⟨op, nn, m⟩ := x
      dsimp only at h0 h1 h2 hbds
      have k1 : (k : Int) < (ol' : Int) := by omega
      have hkb : k ≤ 40100 := by omega
      clear hat hbl hown hnb hQ
      by_cases h24 : op = 24
      · subst h24
        by_cases hnp : nn = p
        · obtain rfl : p = nn := hnp.symm
          clear hnp
          have HQ2 : Hid (p = curq 0 (ops.take (k + 1))) := by show _ = _; rw [hqs]; rfl
          have HW2 : Hid (opCells (wth p 0 (ops.take (k + 1))) = opCells (wth p 0 (ops.take k))) := by show _ = _; rw [hws, if_pos (by rfl)]
          clear hqs hws
          go_wp2
          go_roundw
          case rel => exact ⟨k + 1, n, _, sa, sc, by omega, by omega, by go_num, rfl, HQ2, by rw [HW2.out]; exact HOWN.out.alloc _, HBOX.out.keep (below_alloc _ _) hhr, (fun o => ((below_alloc wr _).frozen (p := ⟨h, o, none⟩) hhr).trans (hfz.out o)), HBL.out.trans ((below_alloc _ _).mono (by omega))⟩
          case measure => simp [intOf]; omega
        · by_cases hlt2 : p < nn
          · have HQ2 : Hid (nn = curq 0 (ops.take (k + 1))) := by show _ = _; rw [hqs]; rfl
            have HW2 : Hid (opCells (wth p 0 (ops.take (k + 1))) = opCells (wth p 0 (ops.take k)) ++ [.int .i64 24, .int .i64 (nn - 1), .int .i64 m]) := by show _ = _; rw [hws, if_neg (by exact hnp), opCells_app]; rw [shp_cases, if_pos ⟨.inl rfl, hlt2⟩]; rfl
            have HG : Hid (∀ g, (Value.slice sa n sc).ownBlock = some g → h + 1 ≤ g) := fun g e => (HOWN.out.lt _ e).1
            have en : (nn == p) = false := by simpa using hnp
            clear hnp
            have g1 : decide (p < nn) = true := by simpa using hlt2
            clear hlt2
            clear hqs hws
            go_wp2_with (at_builtin; refine wpList_append_row1 rfl (.tmp 62) (.tmp 64) 23 rfl (h + 1) 35 i1 _ 3 24 Tryd.underlying23 HI1.out (by decide) rfl (by decide) _ n _ rfl (HOWN.out.alloc _) [.int .i64 24, .int .i64 (nn - 1), .int .i64 m] rfl (by intro u hu; simp at hu; rcases hu with rfl | rfl | rfl <;> rfl) (wr.heap.size + 1) (by simp) rfl (by omega) (by simp; omega) ?_)
            intro v6 w6 hown6 hbe6 hsz6 hcl6 hff6 hob6
            obtain ⟨sa6, sc6, rfl⟩ := owns_form' hown6
            have hne : ∀ j : Nat, some (⟨h, j, none⟩ : Addr).block ≠ (Value.slice sa n sc).ownBlock := fun j e => by have := HG.out _ e.symm; simp at this; omega
            have HB6 : Hid (BoxC w6 h ⟨name, data, ops, globals, procs, labels⟩ da' sa ga' dl' dc' n sc gl' gc') := (HBOX.out.keep (below_alloc _ _) hhr).off (fun j u hu => hcl6 _ _ hu (hne j))
            have HF6 : Hid (∀ o, w6.frozen? ⟨h, o, none⟩ = false) := fun o => (hff6 ⟨h, o, none⟩ (by simp; omega) (hne o)).trans (((below_alloc wr _).frozen (p := ⟨h, o, none⟩) hhr).trans (hfz.out o))
            have HL6 : Hid (Below h w4 w6) := hbe6 _ _ (HBL.out.trans ((below_alloc _ _).mono (by omega))) (by omega)
            have HO6 : Hid (w6.ownsRow (h + 1) 35 3 (.slice sa6 (n + 1) sc6) (n + 1) (opCells (wth p 0 (ops.take (k + 1))))) := by show World.ownsRow _ _ _ _ _ _ _; rw [HW2.out]; exact hown6
            have f62 := HF6.out 2
            have e62 := HB6.out.2.2.1
            have h6 : h < w6.heap.size := HB6.out.lt
            clear hown6 hbe6 hsz6 hcl6 hff6 hob6 hne d0 d1 d2 d3 d4 d5 c0 c1 c2 c3 c4 c5 h0 h1 h2
            go_wp2
            go_roundw
            case rel => exact ⟨k + 1, n + 1, _, sa6, sc6, by omega, by omega, by go_num, rfl, HQ2, owns_kb HO6.out (Kb.set (g := h) (j := 2) ⟨Nat.le_refl _, fun _ _ _ => rfl⟩ (by omega)), box_one HB6.out (by decide) rfl rfl rfl rfl rfl rfl, (fun o => (World.frozen?_setCell ..).trans (HF6.out o)), HL6.out.setCell (p := ⟨h, 2, none⟩) (Nat.le_refl _) _⟩
            case measure => simp [intOf]; omega
          · have HQ2 : Hid (nn = curq 0 (ops.take (k + 1))) := by show _ = _; rw [hqs]; rfl
            have HW2 : Hid (opCells (wth p 0 (ops.take (k + 1))) = opCells (wth p 0 (ops.take k)) ++ [.int .i64 24, .int .i64 (nn), .int .i64 m]) := by show _ = _; rw [hws, if_neg (by exact hnp), opCells_app]; rw [shp_cases, if_neg (fun e => hlt2 e.2), if_neg (fun e => by have := e.1; omega)]; rfl
            have HG : Hid (∀ g, (Value.slice sa n sc).ownBlock = some g → h + 1 ≤ g) := fun g e => (HOWN.out.lt _ e).1
            have en : (nn == p) = false := by simpa using hnp
            clear hnp
            have g1 : decide (p < nn) = false := by simpa using hlt2
            clear hlt2
            clear hqs hws
            go_wp2_with (at_builtin; refine wpList_append_row1 rfl (.tmp 62) (.tmp 64) 23 rfl (h + 1) 35 i1 _ 3 24 Tryd.underlying23 HI1.out (by decide) rfl (by decide) _ n _ rfl (HOWN.out.alloc _) [.int .i64 24, .int .i64 (nn), .int .i64 m] rfl (by intro u hu; simp at hu; rcases hu with rfl | rfl | rfl <;> rfl) (wr.heap.size + 1) (by simp) rfl (by omega) (by simp; omega) ?_)
            intro v6 w6 hown6 hbe6 hsz6 hcl6 hff6 hob6
            obtain ⟨sa6, sc6, rfl⟩ := owns_form' hown6
            have hne : ∀ j : Nat, some (⟨h, j, none⟩ : Addr).block ≠ (Value.slice sa n sc).ownBlock := fun j e => by have := HG.out _ e.symm; simp at this; omega
            have HB6 : Hid (BoxC w6 h ⟨name, data, ops, globals, procs, labels⟩ da' sa ga' dl' dc' n sc gl' gc') := (HBOX.out.keep (below_alloc _ _) hhr).off (fun j u hu => hcl6 _ _ hu (hne j))
            have HF6 : Hid (∀ o, w6.frozen? ⟨h, o, none⟩ = false) := fun o => (hff6 ⟨h, o, none⟩ (by simp; omega) (hne o)).trans (((below_alloc wr _).frozen (p := ⟨h, o, none⟩) hhr).trans (hfz.out o))
            have HL6 : Hid (Below h w4 w6) := hbe6 _ _ (HBL.out.trans ((below_alloc _ _).mono (by omega))) (by omega)
            have HO6 : Hid (w6.ownsRow (h + 1) 35 3 (.slice sa6 (n + 1) sc6) (n + 1) (opCells (wth p 0 (ops.take (k + 1))))) := by show World.ownsRow _ _ _ _ _ _ _; rw [HW2.out]; exact hown6
            have f62 := HF6.out 2
            have e62 := HB6.out.2.2.1
            have h6 : h < w6.heap.size := HB6.out.lt
            clear hown6 hbe6 hsz6 hcl6 hff6 hob6 hne d0 d1 d2 d3 d4 d5 c0 c1 c2 c3 c4 c5 h0 h1 h2
            go_wp2
            go_roundw
            case rel => exact ⟨k + 1, n + 1, _, sa6, sc6, by omega, by omega, by go_num, rfl, HQ2, owns_kb HO6.out (Kb.set (g := h) (j := 2) ⟨Nat.le_refl _, fun _ _ _ => rfl⟩ (by omega)), box_one HB6.out (by decide) rfl rfl rfl rfl rfl rfl, (fun o => (World.frozen?_setCell ..).trans (HF6.out o)), HL6.out.setCell (p := ⟨h, 2, none⟩) (Nat.le_refl _) _⟩
            case measure => simp [intOf]; omega
      · have e24 : (op == 24) = false := by simpa using h24
        by_cases hqp : Q = p
        · obtain rfl : p = Q := hqp.symm
          clear hqp
          have HQ2 : Hid (p = curq 0 (ops.take (k + 1))) := by show _ = _; rw [hqs]; exact (nxq_other h24).symm
          have HW2 : Hid (opCells (wth p 0 (ops.take (k + 1))) = opCells (wth p 0 (ops.take k))) := by show _ = _; rw [hws, if_pos (by exact nxq_other h24)]
          clear hqs hws h24
          go_wp2
          go_roundw
          case rel => exact ⟨k + 1, n, _, sa, sc, by omega, by omega, by go_num, rfl, HQ2, by rw [HW2.out]; exact HOWN.out.alloc _, HBOX.out.keep (below_alloc _ _) hhr, (fun o => ((below_alloc wr _).frozen (p := ⟨h, o, none⟩) hhr).trans (hfz.out o)), HBL.out.trans ((below_alloc _ _).mono (by omega))⟩
          case measure => simp [intOf]; omega
        · have eq1 : (Q == p) = false := by simpa using hqp
          by_cases h11 : op = 11
          · subst h11
            by_cases hlt2 : p < nn
            · have HQ2 : Hid (Q = curq 0 (ops.take (k + 1))) := by show _ = _; rw [hqs]; exact (nxq_other h24).symm
              have HW2 : Hid (opCells (wth p 0 (ops.take (k + 1))) = opCells (wth p 0 (ops.take k)) ++ [.int .i64 11, .int .i64 (nn - 1), .int .i64 m]) := by show _ = _; rw [hws, if_neg (by rw [nxq_other h24]; exact hqp), opCells_app]; rw [shp_cases, if_pos ⟨.inr rfl, hlt2⟩]; rfl
              have HG : Hid (∀ g, (Value.slice sa n sc).ownBlock = some g → h + 1 ≤ g) := fun g e => (HOWN.out.lt _ e).1
              have g1 : decide (p < nn) = true := by simpa using hlt2
              clear hlt2
              clear hqs hws h24 hqp
              go_wp2_with (at_builtin; refine wpList_append_row1 rfl (.tmp 62) (.tmp 64) 23 rfl (h + 1) 35 i1 _ 3 24 Tryd.underlying23 HI1.out (by decide) rfl (by decide) _ n _ rfl (HOWN.out.alloc _) [.int .i64 11, .int .i64 (nn - 1), .int .i64 m] rfl (by intro u hu; simp at hu; rcases hu with rfl | rfl | rfl <;> rfl) (wr.heap.size + 1) (by simp) rfl (by omega) (by simp; omega) ?_)
              intro v6 w6 hown6 hbe6 hsz6 hcl6 hff6 hob6
              obtain ⟨sa6, sc6, rfl⟩ := owns_form' hown6
              have hne : ∀ j : Nat, some (⟨h, j, none⟩ : Addr).block ≠ (Value.slice sa n sc).ownBlock := fun j e => by have := HG.out _ e.symm; simp at this; omega
              have HB6 : Hid (BoxC w6 h ⟨name, data, ops, globals, procs, labels⟩ da' sa ga' dl' dc' n sc gl' gc') := (HBOX.out.keep (below_alloc _ _) hhr).off (fun j u hu => hcl6 _ _ hu (hne j))
              have HF6 : Hid (∀ o, w6.frozen? ⟨h, o, none⟩ = false) := fun o => (hff6 ⟨h, o, none⟩ (by simp; omega) (hne o)).trans (((below_alloc wr _).frozen (p := ⟨h, o, none⟩) hhr).trans (hfz.out o))
              have HL6 : Hid (Below h w4 w6) := hbe6 _ _ (HBL.out.trans ((below_alloc _ _).mono (by omega))) (by omega)
              have HO6 : Hid (w6.ownsRow (h + 1) 35 3 (.slice sa6 (n + 1) sc6) (n + 1) (opCells (wth p 0 (ops.take (k + 1))))) := by show World.ownsRow _ _ _ _ _ _ _; rw [HW2.out]; exact hown6
              have f62 := HF6.out 2
              have e62 := HB6.out.2.2.1
              have h6 : h < w6.heap.size := HB6.out.lt
              clear hown6 hbe6 hsz6 hcl6 hff6 hob6 hne d0 d1 d2 d3 d4 d5 c0 c1 c2 c3 c4 c5 h0 h1 h2
              go_wp2
              go_roundw
              case rel => exact ⟨k + 1, n + 1, _, sa6, sc6, by omega, by omega, by go_num, rfl, HQ2, owns_kb HO6.out (Kb.set (g := h) (j := 2) ⟨Nat.le_refl _, fun _ _ _ => rfl⟩ (by omega)), box_one HB6.out (by decide) rfl rfl rfl rfl rfl rfl, (fun o => (World.frozen?_setCell ..).trans (HF6.out o)), HL6.out.setCell (p := ⟨h, 2, none⟩) (Nat.le_refl _) _⟩
              case measure => simp [intOf]; omega
            · by_cases hnp : nn = p
              · obtain rfl : p = nn := hnp.symm
                clear hnp
                have HQ2 : Hid (Q = curq 0 (ops.take (k + 1))) := by show _ = _; rw [hqs]; exact (nxq_other h24).symm
                have HW2 : Hid (opCells (wth p 0 (ops.take (k + 1))) = opCells (wth p 0 (ops.take k)) ++ [.int .i64 11, .int .i64 (1), .int .i64 m]) := by show _ = _; rw [hws, if_neg (by rw [nxq_other h24]; exact hqp), opCells_app]; rw [shp_cases, if_neg (fun e => by have := e.2; omega), if_pos ⟨rfl, rfl⟩]; rfl
                have HG : Hid (∀ g, (Value.slice sa n sc).ownBlock = some g → h + 1 ≤ g) := fun g e => (HOWN.out.lt _ e).1
                have g1 : decide (p < p) = false := by simp
                clear hlt2
                clear hqs hws h24 hqp
                go_wp2_with (at_builtin; refine wpList_append_row1 rfl (.tmp 62) (.tmp 64) 23 rfl (h + 1) 35 i1 _ 3 24 Tryd.underlying23 HI1.out (by decide) rfl (by decide) _ n _ rfl (HOWN.out.alloc _) [.int .i64 11, .int .i64 (1), .int .i64 m] rfl (by intro u hu; simp at hu; rcases hu with rfl | rfl | rfl <;> rfl) (wr.heap.size + 1) (by simp) rfl (by omega) (by simp; omega) ?_)
                intro v6 w6 hown6 hbe6 hsz6 hcl6 hff6 hob6
                obtain ⟨sa6, sc6, rfl⟩ := owns_form' hown6
                have hne : ∀ j : Nat, some (⟨h, j, none⟩ : Addr).block ≠ (Value.slice sa n sc).ownBlock := fun j e => by have := HG.out _ e.symm; simp at this; omega
                have HB6 : Hid (BoxC w6 h ⟨name, data, ops, globals, procs, labels⟩ da' sa ga' dl' dc' n sc gl' gc') := (HBOX.out.keep (below_alloc _ _) hhr).off (fun j u hu => hcl6 _ _ hu (hne j))
                have HF6 : Hid (∀ o, w6.frozen? ⟨h, o, none⟩ = false) := fun o => (hff6 ⟨h, o, none⟩ (by simp; omega) (hne o)).trans (((below_alloc wr _).frozen (p := ⟨h, o, none⟩) hhr).trans (hfz.out o))
                have HL6 : Hid (Below h w4 w6) := hbe6 _ _ (HBL.out.trans ((below_alloc _ _).mono (by omega))) (by omega)
                have HO6 : Hid (w6.ownsRow (h + 1) 35 3 (.slice sa6 (n + 1) sc6) (n + 1) (opCells (wth p 0 (ops.take (k + 1))))) := by show World.ownsRow _ _ _ _ _ _ _; rw [HW2.out]; exact hown6
                have f62 := HF6.out 2
                have e62 := HB6.out.2.2.1
                have h6 : h < w6.heap.size := HB6.out.lt
                clear hown6 hbe6 hsz6 hcl6 hff6 hob6 hne d0 d1 d2 d3 d4 d5 c0 c1 c2 c3 c4 c5 h0 h1 h2
                go_wp2
                go_roundw
                case rel => exact ⟨k + 1, n + 1, _, sa6, sc6, by omega, by omega, by go_num, rfl, HQ2, owns_kb HO6.out (Kb.set (g := h) (j := 2) ⟨Nat.le_refl _, fun _ _ _ => rfl⟩ (by omega)), box_one HB6.out (by decide) rfl rfl rfl rfl rfl rfl, (fun o => (World.frozen?_setCell ..).trans (HF6.out o)), HL6.out.setCell (p := ⟨h, 2, none⟩) (Nat.le_refl _) _⟩
                case measure => simp [intOf]; omega
              · have HQ2 : Hid (Q = curq 0 (ops.take (k + 1))) := by show _ = _; rw [hqs]; exact (nxq_other h24).symm
                have HW2 : Hid (opCells (wth p 0 (ops.take (k + 1))) = opCells (wth p 0 (ops.take k)) ++ [.int .i64 11, .int .i64 (nn), .int .i64 m]) := by show _ = _; rw [hws, if_neg (by rw [nxq_other h24]; exact hqp), opCells_app]; rw [shp_cases, if_neg (fun e => hlt2 e.2), if_neg (fun e => hnp e.2)]; rfl
                have HG : Hid (∀ g, (Value.slice sa n sc).ownBlock = some g → h + 1 ≤ g) := fun g e => (HOWN.out.lt _ e).1
                have en : (nn == p) = false := by simpa using hnp
                clear hnp
                have g1 : decide (p < nn) = false := by simpa using hlt2
                clear hlt2
                clear hqs hws h24 hqp
                go_wp2_with (at_builtin; refine wpList_append_row1 rfl (.tmp 62) (.tmp 64) 23 rfl (h + 1) 35 i1 _ 3 24 Tryd.underlying23 HI1.out (by decide) rfl (by decide) _ n _ rfl (HOWN.out.alloc _) [.int .i64 11, .int .i64 (nn), .int .i64 m] rfl (by intro u hu; simp at hu; rcases hu with rfl | rfl | rfl <;> rfl) (wr.heap.size + 1) (by simp) rfl (by omega) (by simp; omega) ?_)
                intro v6 w6 hown6 hbe6 hsz6 hcl6 hff6 hob6
                obtain ⟨sa6, sc6, rfl⟩ := owns_form' hown6
                have hne : ∀ j : Nat, some (⟨h, j, none⟩ : Addr).block ≠ (Value.slice sa n sc).ownBlock := fun j e => by have := HG.out _ e.symm; simp at this; omega
                have HB6 : Hid (BoxC w6 h ⟨name, data, ops, globals, procs, labels⟩ da' sa ga' dl' dc' n sc gl' gc') := (HBOX.out.keep (below_alloc _ _) hhr).off (fun j u hu => hcl6 _ _ hu (hne j))
                have HF6 : Hid (∀ o, w6.frozen? ⟨h, o, none⟩ = false) := fun o => (hff6 ⟨h, o, none⟩ (by simp; omega) (hne o)).trans (((below_alloc wr _).frozen (p := ⟨h, o, none⟩) hhr).trans (hfz.out o))
                have HL6 : Hid (Below h w4 w6) := hbe6 _ _ (HBL.out.trans ((below_alloc _ _).mono (by omega))) (by omega)
                have HO6 : Hid (w6.ownsRow (h + 1) 35 3 (.slice sa6 (n + 1) sc6) (n + 1) (opCells (wth p 0 (ops.take (k + 1))))) := by show World.ownsRow _ _ _ _ _ _ _; rw [HW2.out]; exact hown6
                have f62 := HF6.out 2
                have e62 := HB6.out.2.2.1
                have h6 : h < w6.heap.size := HB6.out.lt
                clear hown6 hbe6 hsz6 hcl6 hff6 hob6 hne d0 d1 d2 d3 d4 d5 c0 c1 c2 c3 c4 c5 h0 h1 h2
                go_wp2
                go_roundw
                case rel => exact ⟨k + 1, n + 1, _, sa6, sc6, by omega, by omega, by go_num, rfl, HQ2, owns_kb HO6.out (Kb.set (g := h) (j := 2) ⟨Nat.le_refl _, fun _ _ _ => rfl⟩ (by omega)), box_one HB6.out (by decide) rfl rfl rfl rfl rfl rfl, (fun o => (World.frozen?_setCell ..).trans (HF6.out o)), HL6.out.setCell (p := ⟨h, 2, none⟩) (Nat.le_refl _) _⟩
                case measure => simp [intOf]; omega
          · have HQ2 : Hid (Q = curq 0 (ops.take (k + 1))) := by show _ = _; rw [hqs]; exact (nxq_other h24).symm
            have HW2 : Hid (opCells (wth p 0 (ops.take (k + 1))) = opCells (wth p 0 (ops.take k)) ++ [.int .i64 op, .int .i64 (nn), .int .i64 m]) := by show _ = _; rw [hws, if_neg (by rw [nxq_other h24]; exact hqp), opCells_app]; rw [shp_cases, if_neg (fun e => by have := e.1; omega), if_neg (fun e => h11 e.1)]; rfl
            have HG : Hid (∀ g, (Value.slice sa n sc).ownBlock = some g → h + 1 ≤ g) := fun g e => (HOWN.out.lt _ e).1
            have e11 : (op == 11) = false := by simpa using h11
            clear h11
            clear hqs hws h24 hqp
            go_wp2_with (at_builtin; refine wpList_append_row1 rfl (.tmp 62) (.tmp 64) 23 rfl (h + 1) 35 i1 _ 3 24 Tryd.underlying23 HI1.out (by decide) rfl (by decide) _ n _ rfl (HOWN.out.alloc _) [.int .i64 op, .int .i64 (nn), .int .i64 m] rfl (by intro u hu; simp at hu; rcases hu with rfl | rfl | rfl <;> rfl) (wr.heap.size + 1) (by simp) rfl (by omega) (by simp; omega) ?_)
            intro v6 w6 hown6 hbe6 hsz6 hcl6 hff6 hob6
            obtain ⟨sa6, sc6, rfl⟩ := owns_form' hown6
            have hne : ∀ j : Nat, some (⟨h, j, none⟩ : Addr).block ≠ (Value.slice sa n sc).ownBlock := fun j e => by have := HG.out _ e.symm; simp at this; omega
            have HB6 : Hid (BoxC w6 h ⟨name, data, ops, globals, procs, labels⟩ da' sa ga' dl' dc' n sc gl' gc') := (HBOX.out.keep (below_alloc _ _) hhr).off (fun j u hu => hcl6 _ _ hu (hne j))
            have HF6 : Hid (∀ o, w6.frozen? ⟨h, o, none⟩ = false) := fun o => (hff6 ⟨h, o, none⟩ (by simp; omega) (hne o)).trans (((below_alloc wr _).frozen (p := ⟨h, o, none⟩) hhr).trans (hfz.out o))
            have HL6 : Hid (Below h w4 w6) := hbe6 _ _ (HBL.out.trans ((below_alloc _ _).mono (by omega))) (by omega)
            have HO6 : Hid (w6.ownsRow (h + 1) 35 3 (.slice sa6 (n + 1) sc6) (n + 1) (opCells (wth p 0 (ops.take (k + 1))))) := by show World.ownsRow _ _ _ _ _ _ _; rw [HW2.out]; exact hown6
            have f62 := HF6.out 2
            have e62 := HB6.out.2.2.1
            have h6 : h < w6.heap.size := HB6.out.lt
            clear hown6 hbe6 hsz6 hcl6 hff6 hob6 hne d0 d1 d2 d3 d4 d5 c0 c1 c2 c3 c4 c5 h0 h1 h2
            go_wp2
            go_roundw
            case rel => exact ⟨k + 1, n + 1, _, sa6, sc6, by omega, by omega, by go_num, rfl, HQ2, owns_kb HO6.out (Kb.set (g := h) (j := 2) ⟨Nat.le_refl _, fun _ _ _ => rfl⟩ (by omega)), box_one HB6.out (by decide) rfl rfl rfl rfl rfl rfl, (fun o => (World.frozen?_setCell ..).trans (HF6.out o)), HL6.out.setCell (p := ⟨h, 2, none⟩) (Nat.le_refl _) _⟩
            case measure => simp [intOf]; omega
    · obtain rfl : ol' = k := by omega
      have hfull : ops.take ol' = ops := List.take_of_length_le (by rw [← HO.out]; exact Nat.le_refl _)
      rw [hfull] at hown
      have hnl : n = (wth p 0 ops).length := by have := hown.1; rw [opCells_len] at this; omega
      have HNL := Lib.hid hnl
      have HOWN := Lib.hid hown
      obtain ⟨WR, hWR⟩ : ∃ W, W = wr := ⟨_, rfl⟩
      subst hWR
      have f3 := hfz.out 3
      have f4 := hfz.out 4
      have f5 := hfz.out 5
      obtain ⟨V, hV⟩ : ∃ V, ((WR.setCell ⟨h, 4, none⟩ (.int .i64 (procs - 1))).setCell ⟨h, 3, none⟩ (.slice none 0 0)).setCell ⟨h, 5, none⟩ (.int .i64 0) = V := ⟨_, rfl⟩
      have HBV : Hid (BoxC V h ⟨name, data, ops, globals, procs - 1, 0⟩ da' sa none dl' dc' n sc 0 0) := by
        rw [← hV]
        exact box_one (c := ⟨name, data, ops, globals, procs - 1, labels⟩) (box_one (c := ⟨name, data, ops, globals, procs - 1, labels⟩) (c' := ⟨name, data, ops, globals, procs - 1, labels⟩) (ga' := none) (gl' := 0) (gc' := 0) (box_one (c' := ⟨name, data, ops, globals, procs - 1, labels⟩) HBOX.out (by decide) rfl rfl rfl rfl rfl rfl) (by decide) rfl rfl rfl rfl rfl rfl) (by decide) rfl rfl rfl rfl rfl rfl
      have HOV : Hid (V.ownsRow (h + 1) 35 3 (.slice sa n sc) n (opCells (wth p 0 ops))) := by
        rw [← hV]
        exact owns_kb HOWN.out (Kb.set (g := h) (j := 5) (Kb.set (g := h) (j := 3) (Kb.set (w := WR) (w' := WR) (g := h) (j := 4) ⟨Nat.le_refl _, fun _ _ _ => rfl⟩ (by omega)) (by omega)) (by omega))
      have HFV : Hid (∀ o, V.frozen? ⟨h, o, none⟩ = false) := fun o => by rw [← hV, World.frozen?_setCell, World.frozen?_setCell, World.frozen?_setCell]; exact hfz.out o
      have HLV : Hid (Below h w4 V) := by
        rw [← hV]
        exact ((HBL.out.setCell (p := ⟨h, 4, none⟩) (Nat.le_refl _) _).setCell (p := ⟨h, 3, none⟩) (Nat.le_refl _) _).setCell (p := ⟨h, 5, none⟩) (Nat.le_refl _) _
      clear hown hbl hfull hnl hlt hk hQ hfz
      go_wp2
      try rw [hV]
      clear hV HBOX HOWN HBL c0 c1 c2 c3 c4 c5 d0 d1 d2 d3 d4 d5 f3 f4 f5 hhr hwr
      go_loopw [9] (fun i wr => ∃ (j : Nat) (L : Int), j ≤ n ∧ i = .int .i64 j ∧ Hid (L = lmx 0 ((wth p 0 ops).take j)) ∧ wr.ownsRow (h + 1) 35 3 (.slice sa n sc) n (opCells (wth p 0 ops)) ∧ BoxC wr h ⟨name, data, ops, globals, procs - 1, L⟩ da' sa none dl' dc' n sc 0 0 ∧ Hid (∀ o, wr.frozen? ⟨h, o, none⟩ = false) ∧ Below h w4 wr) (fun i _ => n - (intOf i).toNat)
      case atStart => exact ⟨0, 0, Nat.zero_le _, rfl, (show Hid ((0 : Int) = lmx 0 ((wth p 0 ops).take 0)) from rfl), HOV.out, HBV.out, HFV, HLV.out⟩
      case round =>
        clear HBV HOV HFV HLV
        obtain ⟨j, L, hj, rfl, hL, hown, hbox, hfz, hbl⟩ := hrel
        have HOWN := Lib.hid hown
        have HBOX := Lib.hid hbox
        have HBL := Lib.hid hbl
        have hhr : h < wr.heap.size := hbox.lt
        have hwr : w.heap.size < wr.heap.size := by omega
        obtain ⟨d0, d1, d2, d3, d4, d5⟩ := hbox
        by_cases hlt : j < n
        · obtain ⟨g, sg, hv⟩ := owns_pos hown (by omega)
          simp only [Value.slice.injEq, true_and] at hv
          obtain ⟨rfl, rfl⟩ := hv
          have hg := hown.lt g rfl
          have hml : j < (wth p 0 ops).length := by rw [← HNL.out]; exact hlt
          obtain ⟨r0, r1, r2⟩ := opCells_at (wth p 0 ops) j hml
          have q0 := (hown.cellAt (j * 3) (by omega)).trans r0
          have q1 := (hown.cellAt (j * 3 + 1) (by omega)).trans r1
          have hls := lmx_snoc (a := 0) hml
          rw [← hL.out] at hls
          generalize (wth p 0 ops).getD j OC.oz = x at *
          obtain ⟨op, nn, m⟩ := x
          dsimp only at q0 q1 hls
          have k1 : (j : Int) < (n : Int) := by omega
          have hkb : j ≤ 40100 := by omega
          clear r0 r1 r2 hml hown hbl hL
          by_cases h19 : op = 19
          · subst h19
            rw [if_pos rfl] at hls
            have HL2 : Hid (max L nn = lmx 0 ((wth p 0 ops).take (j + 1))) := hls.symm
            have f5 := hfz.out 5
            have m1 : ¬ g = h := by omega
            clear hls d0 d1 d3 d4
            go_wp2
            refine OrdJ.wp (S := (fun w' => w'.cell? ⟨h, 5, none⟩ = some (.int .i64 L) ∧ w'.cell? ⟨h, 2, none⟩ = some (.slice (some ⟨g, 0, none⟩) n sc) ∧ w'.cell? ⟨g, j * 3, none⟩ = some (.int .i64 19) ∧ w'.cell? ⟨g, j * 3 + 1, none⟩ = some (.int .i64 nn))) 10 (by kernel_rfl) ?_ (fun hHeld => ?_)
            · go_keep
            refine OrdJ.take (i := 0) (v := ?va0) (ch := [10]) rfl rfl (by kernel_rfl) (by kernel_rfl) (by kernel_rfl) (by kernel_rfl) (by kernel_rfl) (fun _ _ _ h => h) (Or.inl ⟨by rfl, ?hya0⟩) (by assumption) ?resta0
            case hya0 => (intro W hSw; (try dsimp only at hSw); go_simp; try with_reducible rfl)
            try simp only [Act.put, List.setIfInBounds_toArray, List.set_cons_zero, List.set_cons_succ]
            refine OrdJ.take (i := 1) (v := ?va1) (ch := [10]) rfl rfl (by kernel_rfl) (by kernel_rfl) (by kernel_rfl) (by kernel_rfl) (by kernel_rfl) (fun _ _ _ h => h) (Or.inl ⟨by rfl, ?hya1⟩) (by assumption) ?resta1
            case hya1 => (intro W hSw; (try dsimp only at hSw); go_simp; try with_reducible rfl)
            try simp only [Act.put, List.setIfInBounds_toArray, List.set_cons_zero, List.set_cons_succ]
            refine OrdJ.take (i := 2) (v := ?va2) (ch := [10]) rfl rfl (by kernel_rfl) (by kernel_rfl) (by kernel_rfl) (by kernel_rfl) (by kernel_rfl) (fun _ _ _ h => h) (Or.inl ⟨by rfl, ?hya2⟩) (by assumption) ?resta2
            case hya2 => (intro W hSw; (try dsimp only at hSw); go_simp; try with_reducible rfl)
            try simp only [Act.put, List.setIfInBounds_toArray, List.set_cons_zero, List.set_cons_succ]
            refine OrdJ.take (i := 3) (v := ?va3) (ch := [10]) rfl rfl (by kernel_rfl) (by kernel_rfl) (by kernel_rfl) (by kernel_rfl) (by kernel_rfl) (fun _ _ _ h => h) (Or.inl ⟨by rfl, ?hya3⟩) (by assumption) ?resta3
            case hya3 => (intro W hSw; (try dsimp only at hSw); go_simp; try with_reducible rfl)
            try simp only [Act.put, List.setIfInBounds_toArray, List.set_cons_zero, List.set_cons_succ]
            refine OrdJ.take (i := 4) (v := ?va4) (ch := [10]) rfl rfl (by kernel_rfl) (by kernel_rfl) (by kernel_rfl) (by kernel_rfl) (by kernel_rfl) (fun _ _ _ h => h) (Or.inl ⟨by rfl, ?hya4⟩) (by assumption) ?resta4
            case hya4 => (intro W hSw; (try dsimp only at hSw); go_simp; try with_reducible rfl)
            try simp only [Act.put, List.setIfInBounds_toArray, List.set_cons_zero, List.set_cons_succ]
            refine OrdJ.take (i := 5) (v := ?va5) (ch := [10]) rfl rfl (by kernel_rfl) (by kernel_rfl) (by kernel_rfl) (by kernel_rfl) (by kernel_rfl) (fun _ _ _ h => h) (Or.inl ⟨by rfl, ?hya5⟩) (by assumption) ?resta5
            case hya5 => (intro W hSw; (try dsimp only at hSw); go_simp; try with_reducible rfl)
            try simp only [Act.put, List.setIfInBounds_toArray, List.set_cons_zero, List.set_cons_succ]
            refine OrdJ.take (i := 6) (v := ?va6) (ch := [10]) rfl rfl (by kernel_rfl) (by kernel_rfl) (by kernel_rfl) (by kernel_rfl) (by kernel_rfl) (fun _ _ _ h => h) (Or.inl ⟨by rfl, ?hya6⟩) (by assumption) ?resta6
            case hya6 => (intro W hSw; (try dsimp only at hSw); go_simp; try with_reducible rfl)
            try simp only [Act.put, List.setIfInBounds_toArray, List.set_cons_zero, List.set_cons_succ]
            refine OrdJ.take (i := 7) (v := ?va7) (ch := [10]) rfl rfl (by kernel_rfl) (by kernel_rfl) (by kernel_rfl) (by kernel_rfl) (by kernel_rfl) (fun _ _ _ h => h) (Or.inl ⟨by rfl, ?hya7⟩) (by assumption) ?resta7
            case hya7 => (intro W hSw; (try dsimp only at hSw); go_simp; try with_reducible rfl)
            try simp only [Act.put, List.setIfInBounds_toArray, List.set_cons_zero, List.set_cons_succ]
            refine OrdJ.take (i := 8) (v := ?va8) (ch := [10]) rfl rfl (by kernel_rfl) (by kernel_rfl) (by kernel_rfl) (by kernel_rfl) (by kernel_rfl) (fun _ _ _ h => h) (Or.inl ⟨by rfl, ?hya8⟩) (by assumption) ?resta8
            case hya8 => (intro W hSw; (try dsimp only at hSw); go_simp; try with_reducible rfl)
            try simp only [Act.put, List.setIfInBounds_toArray, List.set_cons_zero, List.set_cons_succ]
            refine OrdJ.take (i := 9) (v := ?va9) (ch := [10]) rfl rfl (by kernel_rfl) (by kernel_rfl) (by kernel_rfl) (by kernel_rfl) (by kernel_rfl) (fun _ _ _ h => h) (Or.inl ⟨by rfl, ?hya9⟩) (by assumption) ?resta9
            case hya9 => (intro W hSw; (try dsimp only at hSw); go_simp; try with_reducible rfl)
            try simp only [Act.put, List.setIfInBounds_toArray, List.set_cons_zero, List.set_cons_succ]
            refine OrdJ.one (i := 10) (by kernel_rfl) rfl (fun K hK => ?_)
            have hc2 := hHeld.1
            go_simp
            refine hK.out _ _ ⟨fun h => absurd rfl h, ?_⟩
            clear hK K
            try simp only [Act.put, List.setIfInBounds_toArray, List.set_cons_zero, List.set_cons_succ]
            refine OrdJ.done (by kernel_rfl) ?_
            go_wp2
            go_roundw
            case rel => simp only [maxIf]; exact ⟨j + 1, max L nn, by omega, by go_num, HL2, owns_kb HOWN.out (Kb.set (w := wr) (w' := wr.drew) (g := h) (j := 5) ⟨Nat.le_refl _, fun _ _ _ => rfl⟩ (by omega)), box_one (w := wr.drew) (HBOX.out.keep (w' := wr.drew) (Below.refl wr.heap.size wr).drew hhr) (by decide) rfl rfl rfl rfl rfl rfl, (fun o => (World.frozen?_setCell ..).trans (hfz.out o)), (HBL.out.drew).setCell (p := ⟨h, 5, none⟩) (Nat.le_refl _) _⟩
            case measure => simp [intOf]; omega
          · rw [if_neg h19] at hls
            have e19 : (op == 19) = false := by simpa using h19
            have HL2 : Hid (L = lmx 0 ((wth p 0 ops).take (j + 1))) := hls.symm
            clear hls h19
            go_wp2
            go_roundw
            case rel => exact ⟨j + 1, L, by omega, by go_num, HL2, HOWN.out, HBOX.out, hfz, HBL.out⟩
            case measure => simp [intOf]; omega
        · obtain rfl : n = j := by omega
          have hfull : (wth p 0 ops).take n = wth p 0 ops := List.take_of_length_le (by rw [← HNL.out]; exact Nat.le_refl _)
          have hLe := hL.out
          rw [hfull] at hLe
          have hRe : R = ⟨name, data, wth p 0 ops, [], procs - 1, L⟩ := by
            rw [← HR.out, hLe]; rfl
          subst hRe
          obtain ⟨hz, hfy⟩ := HZ4.out
          obtain ⟨e0, e1, e2, e3, e4, e5⟩ := hz.keep HBL.out hwh
          have fz : ∀ o, wr.frozen? ⟨w.heap.size + 1, o, none⟩ = false := fun o => (HBL.out.frozen (p := ⟨w.heap.size + 1, o, none⟩) hwh).trans (hfy o)
          have y0 := fz 0
          have y1 := fz 1
          have y2 := fz 2
          have y3 := fz 3
          have y4 := fz 4
          have y5 := fz 5
          have hw1 : w.heap.size + 1 < wr.heap.size := by omega
          clear fz hz hfy hown hbl hL hLe hfull hlt hj
          go_wp2
          obtain ⟨t0, t1, t2, t3, t4, t5⟩ := six_set (.string ⟨name.toArray⟩) (.slice da' dl' dc') (.slice sa n sc) (.slice none 0 0) (.int .i64 (procs - 1)) (.int .i64 L) e0 e1 e2 e3 e4 e5
          have q2 : w.heap.size + 1 < h + 1 := by omega
          have HMZ := (Kb.set (g := w.heap.size + 1) (j := 5) (u := (.int .i64 L)) (Kb.set (g := w.heap.size + 1) (j := 4) (u := (.int .i64 (procs - 1))) (Kb.set (g := w.heap.size + 1) (j := 3) (u := (.slice none 0 0)) (Kb.set (g := w.heap.size + 1) (j := 2) (u := (.slice sa n sc)) (Kb.set (g := w.heap.size + 1) (j := 1) (u := (.slice da' dl' dc')) (Kb.set (base := h + 1) (w := wr) (w' := wr) (g := w.heap.size + 1) (j := 0) (u := (.string ⟨name.toArray⟩)) ⟨Nat.le_refl _, fun _ _ _ => rfl⟩ q2) q2) q2) q2) q2) q2)
          have HLZ := (Below.setCell (Below.setCell (Below.setCell (Below.setCell (Below.setCell (Below.setCell (HL4.out.trans (HBL.out.mono (by omega))) (p := ⟨w.heap.size + 1, 0, none⟩) (Nat.le_succ _) (.string ⟨name.toArray⟩)) (p := ⟨w.heap.size + 1, 1, none⟩) (Nat.le_succ _) (.slice da' dl' dc')) (p := ⟨w.heap.size + 1, 2, none⟩) (Nat.le_succ _) (.slice sa n sc)) (p := ⟨w.heap.size + 1, 3, none⟩) (Nat.le_succ _) (.slice none 0 0)) (p := ⟨w.heap.size + 1, 4, none⟩) (Nat.le_succ _) (.int .i64 (procs - 1))) (p := ⟨w.heap.size + 1, 5, none⟩) (Nat.le_succ _) (.int .i64 L))
          refine bodyPost_ret (v := .agg #[.string ⟨name.toArray⟩, .slice da' dl' dc', .slice sa n sc, .slice none 0 0, .int .i64 (procs - 1), .int .i64 L]) (by simp [results, Tryd.results7, go_sem, t0, t1, t2, t3, t4, t5]) rfl ?_
          refine ⟨⟨da', sa, dl', dc', n, sc, rfl, ⟨HA4.out _ (fun q x hb hx => ?_), RdO.of_owns (owns_kb HOWN.out HMZ) (by omega), RdP.nil _, HC.out.name⟩⟩, HLZ⟩
          have hx2 := (HBL.out.cell (p := q) (by rw [HH.out.symm]; exact World.block_lt_of_cell? _ _ hx)).trans hx
          obtain ⟨qb, qo, qs⟩ := q
          have hsp := World.cell?_spot hx
          dsimp only at hsp hb
          subst hsp
          have hne1 : qb ≠ w.heap.size + 1 := by omega
          exact (set_other _ _ _ _ _ _ hne1).trans ((set_other _ _ _ _ _ _ hne1).trans ((set_other _ _ _ _ _ _ hne1).trans ((set_other _ _ _ _ _ _ hne1).trans ((set_other _ _ _ _ _ _ hne1).trans ((set_other _ _ _ _ _ _ hne1).trans hx2)))))
end Go.Proofs.YtfnkafnjpldaoaaDoor
