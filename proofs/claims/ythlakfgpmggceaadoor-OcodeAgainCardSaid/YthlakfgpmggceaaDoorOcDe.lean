/- The depths of code, in the document's words. -/
import Derived.Test.YthlakfgpmggceaaDoorOcCk
namespace Go.Proofs.YthlakfgpmggceaaDoor
open Go.RowKit
set_option linter.unusedVariables false
set_option linter.unusedSimpArgs false
/-- the depth before each instruction -/
def depG : Int → List OC.Op → List Int
  | _, [] => []
  | d, o :: r => (if o.op = 24 then 0 else d) :: depG (OC.after o (if o.op = 24 then 0 else d)) r
theorem depG_len : ∀ (d : Int) (l : List OC.Op), (depG d l).length = l.length
  | _, [] => rfl
  | d, o :: r => by rw [depG, List.length_cons, depG_len _ r, List.length_cons]
/-- from here on depths are as said -/
def DeepOk (ops : List OC.Op) (t : List Int) (d : Int) (r : List OC.Op) : Prop := ∃ fr pv, OC.deepB ops t d fr pv r = true
theorem after_enter {n m d : Int} : OC.after ⟨24, n, m⟩ d = 2 + m := by simp [OC.after]
theorem DeepOk.next {ops : List OC.Op} {t : List Int} {d : Int} {o : OC.Op} {r : List OC.Op} (h : DeepOk ops t d (o :: r)) (hm : o.op = 24 → 0 ≤ o.m ∧ o.m ≤ 8) :
    DeepOk ops t (OC.after o (if o.op = 24 then 0 else d)) r ∧ 0 ≤ OC.after o (if o.op = 24 then 0 else d) ∧ OC.after o (if o.op = 24 then 0 else d) ≤ 4000 := by
  obtain ⟨fr, pv, h⟩ := h
  rw [OC.deepB] at h
  by_cases h24 : o.op = 24
  · rw [if_pos h24] at h ⊢
    have e : OC.after o 0 = 2 + o.m := by obtain ⟨op, n, m⟩ := o; simp only at h24; subst h24; exact after_enter
    have := hm h24
    rw [e]
    exact ⟨⟨_, _, h⟩, by omega, by omega⟩
  · rw [if_neg h24] at h ⊢
    split at h
    · cases h
    · rename_i hb
      split at h
      · cases h
      · split at h
        · cases h
        · have hin : OC.inB (OC.after o d) 2 4000 = true := by
            cases hi : OC.inB (OC.after o d) 2 4000 with
            | true => rfl
            | false => exact absurd (.inr (.inl hi)) hb
          have := inB_iff.1 hin
          exact ⟨⟨_, _, h⟩, by omega, this.2⟩
theorem checkE_ok {c : OC.Code} (h : checkE c = 0) : NumOk c ∧ OC.orderOk c = true ∧ 0 ≤ c.labels ∧ c.labels ≤ 20000 ∧ 0 ≤ c.procs ∧ c.procs ≤ 200 ∧ ∃ t, OC.plc c.ops 0 (OC.t0 c) = some t ∧ OC.namedB t (OC.prc 0 c.ops) c.ops (OC.prc 0 c.ops) = true ∧ OC.deepB c.ops t 0 false OC.oz c.ops = true := by
  unfold checkE at h
  split at h
  · cases h
  · rename_i hT
    split at h
    · cases h
    · rename_i hP
      split at h
      · cases h
      · rename_i hN
        split at h
        · cases h
        · rename_i hO
          have hlab : c.labels ≤ 20000 ∧ c.procs ≤ 200 := by unfold OC.tooMuch at hT; simp at hT; omega
          refine ⟨fun o ho => List.all_eq_true.1 (by simpa using hN) o ho, by simpa using hO, by omega, hlab.1, by omega, hlab.2, ?_⟩
          split at h
          · cases h
          · rename_i t ht
            split at h
            · cases h
            · rename_i hn
              split at h
              · cases h
              · rename_i hd
                exact ⟨t, ht, by simpa using hn, by simpa using hd⟩
theorem owns_form' {w : World} {base : Nat} {e : TypeId} {size : Nat} {v : Value} {n : Nat} {xs : List Value} (h : w.ownsRow base e size v n xs) : ∃ a cap, v = .slice a n cap := by
  rcases h.2 with ⟨rfl, rfl⟩ | ⟨g, cap, cur, rfl, _⟩
  · exact ⟨_, _, rfl⟩
  · exact ⟨_, _, rfl⟩
theorem owns_keep' {w w' : World} {base : Nat} {e : TypeId} {size : Nat} {v : Value} {n : Nat} {xs : List Value} (h : w.ownsRow base e size v n xs) (hb : Below w.heap.size w w') : w'.ownsRow base e size v n xs :=
  h.kept (row := none) ⟨hb.os, hb.tape, hb.output, hb.size, fun i hi _ => hb.block i hi⟩ (by cases v.ownBlock <;> simp)
set_option maxRecDepth 100000 in
set_option maxHeartbeats 8000000 in
theorem DepthsR_c (c : OC.Code) (da oa ga : Option Addr) (dl dc ol oc gl gc : Nat) (w : World) (hc : CodeIn w c da oa ga dl dc ol oc gl gc) (hs : Small c) :
    Calls Tryd.prog 21 #[codeV c da oa ga dl dc ol oc gl gc] w fun e w' => (∃ v, e = .returned (.tuple #[v, .int .i64 (checkE c : Nat)]) ∧ Rd .i64 w' v (if checkE c = 0 then depG 0 c.ops else [])) ∧ Below w.heap.size w w' := by
  obtain ⟨hol, hoc, _⟩ := hc.ops.len
  have HC := Lib.hid hc
  have HO := Lib.hid hol
  have hol2 := hs.ops
  rw [← hol] at hol2
  obtain ⟨i0, h1, h2, h3, h4⟩ := info_parts int_info
  have hI : Tryd.prog.info? 3 = some i0 ∧ i0.zero = some (.int .i64 0) ∧ i0.size = 1 ∧ i0.bytes = 8 := ⟨h1, h2, h3, h4⟩
  have HI := Lib.hid hI
  clear h1 h2 h3 h4 hI
  obtain ⟨E, hE⟩ : ∃ E, checkE c = E := ⟨_, rfl⟩
  have HCK : Hid (∀ W, CodeIn W c da oa ga dl dc ol oc gl gc → Calls Tryd.prog 16 #[codeV c da oa ga dl dc ol oc gl gc] W fun e w' => e = .returned (.int .i64 (E : Int)) ∧ Below W.heap.size W w') := fun W hW => by have h := CheckR_c c da oa ga dl dc ol oc gl gc W hW hs; rwa [hE] at h
  rw [hE]
  by_cases hE0 : E = 0
  case neg =>
    rw [if_neg hE0]
    have ee : ((E : Int) != 0) = true := by simp; omega
    obtain ⟨name, data, ops, globals, procs, labels⟩ := c
    clear hE hE0 hs hc hol
    go_enter Tryd.func21, Tryd.ntmps21
    go_wp2_with (go_at_call 16; refine (HCK.out _ (HC.out.keep (below_alloc _ _))).mono ?_; rintro e w1 ⟨rfl, hb1⟩)
    go_ret2
    exact ⟨⟨_, rfl, Rd.nil _ _⟩, below_then (below_alloc _ _) hb1⟩
  subst hE0
  rw [if_pos rfl]
  obtain ⟨hnum, hord, _, _, _, _, t, _, _, hdp⟩ := checkE_ok hE
  have HN := Lib.hid hnum
  have HDP : Hid (DeepOk c.ops t 0 c.ops) := ⟨_, _, hdp⟩
  obtain ⟨name, data, ops, globals, procs, labels⟩ := c
  dsimp only at *
  clear hE hs hc hol hnum hord hdp
  go_enter Tryd.func21, Tryd.ntmps21
  go_wp2_with (go_at_call 16; refine (HCK.out _ (HC.out.keep (below_alloc _ _))).mono ?_; rintro e w1 ⟨rfl, hb1⟩)
  have HB := Lib.hid ((BoxC.new w ⟨name, data, ops, globals, procs, labels⟩ da oa ga dl dc ol oc gl gc 26).keep hb1 (by simp))
  have HBL := Lib.hid (below_then (below_alloc w _) hb1)
  have hsz1 : w.heap.size < w1.heap.size := by have := hb1.size; simp at this; omega
  clear hb1
  go_loopw [5, 6, 7] (fun v vd i wr => ∃ (k : Nat) (d : Int) (xs : List Int), k ≤ ol ∧ i = .int .i64 k ∧ vd = .int .i64 d ∧ 0 ≤ d ∧ d ≤ 4000 ∧ xs.length = k ∧ wr.ownsRow (w.heap.size + 1) 3 1 v k (xs.map (.int .i64)) ∧ Hid (depG 0 ops = xs ++ depG d (ops.drop k)) ∧ Hid (DeepOk ops t d (ops.drop k)) ∧ BoxC wr w.heap.size ⟨name, data, ops, globals, procs, labels⟩ da oa ga dl dc ol oc gl gc ∧ Below w.heap.size w wr) (fun _ _ i _ => ol - (intOf i).toNat)
  case atStart => exact ⟨0, 0, [], Nat.zero_le _, rfl, rfl, by omega, by omega, rfl, ⟨by simp, .inl ⟨rfl, rfl⟩⟩, (rfl : depG 0 ops = _), HDP.out, HB.out, HBL.out⟩
  case round =>
    clear HB HBL hsz1 HDP
    obtain ⟨k, d, xs, hk, rfl, rfl, hd1, hd2, hxl, hown, hq, hdq, hbox, hbl⟩ := hrel
    have HBOX := Lib.hid hbox
    have hwz := hbox.lt
    obtain ⟨c0, c1, c2, c3, c4, c5⟩ := hbox
    obtain ⟨sa, sc, rfl⟩ := owns_form' hown
    by_cases hlt : k < ol
    · obtain ⟨hx1, b, off, rfl, hat⟩ := HC.out.ops.get hlt
      clear hx1
      have hbw : b < w.heap.size := World.block_lt_of_cell? _ _ hat.1
      obtain ⟨h0, h1, h2⟩ := hat.keep hbl
      have hkl : k < ops.length := by rw [← HO.out]; exact hlt
      have hd := dropAt (d := OC.oz) hkl
      have hmem := getD_map_range ops OC.oz hkl
      have hnb := HN.out _ hmem
      generalize ops.getD k OC.oz = x at *
      have hen : x.op = 24 → 0 ≤ x.m ∧ x.m ≤ 8 := fun e => by obtain ⟨op, n, m⟩ := x; simp only at e; subst e; exact numB_enter hnb
      have hstep := hdq.out
      rw [hd] at hstep
      obtain ⟨hn1, hn2, hn3⟩ := hstep.next hen
      obtain ⟨D, hD⟩ : ∃ D, (if x.op = 24 then (0 : Int) else d) = D := ⟨_, rfl⟩
      have hDb : 0 ≤ D ∧ D ≤ 4000 := by rw [← hD]; split <;> omega
      have hbds := numB_bd hnb
      have hAf : Hid (∀ W, Calls Tryd.prog 35 #[opVal x, .int .i64 D] W fun e w' => e = .returned (.int .i64 (OC.after x D)) ∧ Below W.heap.size W w') := fun W => afterR_c x D W hbds.2.2.1 hbds.2.2.2.1 hbds.2.2.2.2.1 hbds.2.2.2.2.2 (by omega) (by omega)
      have HQ : Hid (depG 0 ops = (xs ++ [D]) ++ depG (OC.after x D) (ops.drop (k + 1))) := by
        show _ = _
        rw [hq.out, hd, depG, hD, List.append_assoc]; rfl
      rw [hD] at hn1 hn2 hn3
      have HN1 := Lib.hid hn1
      obtain ⟨A, hA⟩ : ∃ A, OC.after x D = A := ⟨_, rfl⟩
      rw [hA] at hAf HQ HN1 hn2 hn3
      obtain ⟨op, n, m⟩ := x
      dsimp only at h0 h1 h2 hD
      have k1 : (k : Int) < (ol : Int) := by omega
      have hxk : Hid ((xs ++ [D]).length = k + 1) := by show _ = _; simp [hxl]
      have hkb : k ≤ 40100 := by omega
      have sep : ∀ (bb : Nat) (j : Nat), bb ≤ w.heap.size → some (⟨bb, j, none⟩ : Addr).block ≠ (Value.slice sa k sc).ownBlock := fun bb j hbb e => by have := (hown.lt _ e.symm).1; simp at this; omega
      have SEP := Lib.hid sep
      clear sep hd hq hdq hstep hn1 hen hnb hmem hbds hA hDb
      by_cases h24 : op = 24
      · rw [if_pos h24] at hD
        subst h24
        subst hD
        go_wp2_with (at_builtin; refine wpList_append_one rfl (.tmp 27) (.tmp 29) 34 rfl (w.heap.size + 1) 3 i0 .i64 8 Tryd.underlying34 HI.out (by decide) _ _ _ rfl hown _ rfl ?_ ?_ ?_)
        · omega
        · omega
        intro v6 w6 hown6 hcl6 hbe6 hsz6 hob6
        have g0 := hcl6 _ _ h0 (SEP.out b 0 (Nat.le_of_lt hbw))
        have g1 := hcl6 _ _ h1 (SEP.out b 0 (Nat.le_of_lt hbw))
        have g2 := hcl6 _ _ h2 (SEP.out b 0 (Nat.le_of_lt hbw))
        have d2 := hcl6 _ _ c2 (SEP.out w.heap.size 0 (Nat.le_refl _))
        have HB6 : Hid (BoxC w6 w.heap.size ⟨name, data, ops, globals, procs, labels⟩ da (some ⟨b, off, none⟩) ga dl dc ol oc gl gc) := ⟨hcl6 _ _ c0 (SEP.out w.heap.size 0 (Nat.le_refl _)), hcl6 _ _ c1 (SEP.out w.heap.size 0 (Nat.le_refl _)), hcl6 _ _ c2 (SEP.out w.heap.size 0 (Nat.le_refl _)), hcl6 _ _ c3 (SEP.out w.heap.size 0 (Nat.le_refl _)), hcl6 _ _ c4 (SEP.out w.heap.size 0 (Nat.le_refl _)), hcl6 _ _ c5 (SEP.out w.heap.size 0 (Nat.le_refl _))⟩
        have kb := hbe6 _ _ hbl (by omega)
        clear hcl6 hbe6 hob6 hown hbl h0 h1 h2 c0 c1 c2 c3 c4 c5 HBOX
        go_wp2_with (go_at_call 35; refine (hAf.out _).mono ?_; rintro e w7 ⟨rfl, hb7⟩)
        go_roundw
        case rel => exact ⟨k + 1, A, xs ++ [_], by omega, by go_num, rfl, by omega, by omega, hxk.out, owns_keep' (by simpa using hown6) hb7, HQ.out, HN1.out, HB6.out.keep hb7 (by omega), below_then kb hb7⟩
        case measure => simp [intOf]; omega
      · rw [if_neg h24] at hD
        subst hD
        have e24 : (op == 24) = false := by simpa using h24
        clear h24
        go_wp2_with (at_builtin; refine wpList_append_one rfl (.tmp 27) (.tmp 29) 34 rfl (w.heap.size + 1) 3 i0 .i64 8 Tryd.underlying34 HI.out (by decide) _ _ _ rfl hown _ rfl ?_ ?_ ?_)
        · omega
        · omega
        intro v6 w6 hown6 hcl6 hbe6 hsz6 hob6
        have g0 := hcl6 _ _ h0 (SEP.out b 0 (Nat.le_of_lt hbw))
        have g1 := hcl6 _ _ h1 (SEP.out b 0 (Nat.le_of_lt hbw))
        have g2 := hcl6 _ _ h2 (SEP.out b 0 (Nat.le_of_lt hbw))
        have d2 := hcl6 _ _ c2 (SEP.out w.heap.size 0 (Nat.le_refl _))
        have HB6 : Hid (BoxC w6 w.heap.size ⟨name, data, ops, globals, procs, labels⟩ da (some ⟨b, off, none⟩) ga dl dc ol oc gl gc) := ⟨hcl6 _ _ c0 (SEP.out w.heap.size 0 (Nat.le_refl _)), hcl6 _ _ c1 (SEP.out w.heap.size 0 (Nat.le_refl _)), hcl6 _ _ c2 (SEP.out w.heap.size 0 (Nat.le_refl _)), hcl6 _ _ c3 (SEP.out w.heap.size 0 (Nat.le_refl _)), hcl6 _ _ c4 (SEP.out w.heap.size 0 (Nat.le_refl _)), hcl6 _ _ c5 (SEP.out w.heap.size 0 (Nat.le_refl _))⟩
        have kb := hbe6 _ _ hbl (by omega)
        clear hcl6 hbe6 hob6 hown hbl h0 h1 h2 c0 c1 c2 c3 c4 c5 HBOX
        go_wp2_with (go_at_call 35; refine (hAf.out _).mono ?_; rintro e w7 ⟨rfl, hb7⟩)
        go_roundw
        case rel => exact ⟨k + 1, A, xs ++ [_], by omega, by go_num, rfl, by omega, by omega, hxk.out, owns_keep' (by simpa using hown6) hb7, HQ.out, HN1.out, HB6.out.keep hb7 (by omega), below_then kb hb7⟩
        case measure => simp [intOf]; omega
    · obtain rfl : ol = k := by omega
      have HF : Hid (depG 0 ops = xs) := by
        show _ = _
        rw [hq.out, List.drop_eq_nil_of_le (by rw [← HO.out]; exact Nat.le_refl _)]; simp [depG]
      clear hq hdq
      go_wp2
      go_ret2
      exact ⟨⟨_, rfl, by rw [HF.out]; exact Rd.of_owns hown (by omega)⟩, hbl⟩
end Go.Proofs.YthlakfgpmggceaaDoor
