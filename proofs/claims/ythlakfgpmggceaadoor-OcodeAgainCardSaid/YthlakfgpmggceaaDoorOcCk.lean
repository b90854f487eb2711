/- Which code is valid, or what is wrong with it, in the document's words. -/
import Derived.Test.YthlakfgpmggceaaDoorOcAr
import Derived.StillTailTactics
namespace Go.Proofs.YthlakfgpmggceaaDoor
open Go.RowKit
set_option linter.unusedVariables false
set_option linter.unusedSimpArgs false
/-- what is wrong with code: 0, nothing -/
def checkE (c : OC.Code) : Nat :=
  if OC.tooMuch c = true then 2
  else if c.procs < 0 ∨ c.labels < 0 ∨ areasB c = false then 60
  else if c.ops.all (OC.numB (c.data.length : Int) c.procs c.labels) = false then 60
  else if OC.orderOk c = false then 60
  else match OC.plc c.ops 0 (OC.t0 c) with
    | none => 60
    | some t => if OC.namedB t (OC.prc 0 c.ops) c.ops (OC.prc 0 c.ops) = false then 60 else if OC.deepB c.ops t 0 false OC.oz c.ops = false then 61 else 0
theorem plc_len : ∀ (l : List OC.Op) (i : Nat) (T t : List Int), OC.plc l i T = some t → t.length = T.length
  | [], _, T, t, h => by simp only [OC.plc, Option.some.injEq] at h; rw [h]
  | o :: r, i, T, t, h => by
    rw [OC.plc] at h
    split at h
    · split at h
      · cases h
      · have := plc_len r _ _ _ h; rwa [List.length_set] at this
    · exact plc_len r _ _ _ h
theorem prc_len : ∀ (l : List OC.Op) (p : Int), (OC.prc p l).length = l.length
  | [], _ => rfl
  | o :: r, p => by rw [OC.prc, List.length_cons, prc_len r, List.length_cons]
set_option maxRecDepth 100000 in
set_option maxHeartbeats 16000000 in
theorem CheckR_c (c : OC.Code) (da oa ga : Option Addr) (dl dc ol oc gl gc : Nat) (w : World) (hc : CodeIn w c da oa ga dl dc ol oc gl gc) (hs : Small c) :
    Calls Tryd.prog 16 #[codeV c da oa ga dl dc ol oc gl gc] w fun e w' => e = .returned (.int .i64 (checkE c : Nat)) ∧ Below w.heap.size w w' := by
  obtain ⟨hdl, hdc, _⟩ := hc.data.len
  obtain ⟨hol, hoc, _⟩ := hc.ops.len
  have HC := Lib.hid hc
  have HS := Lib.hid hs
  have HO := Lib.hid hol
  have HD := Lib.hid hdl
  have hol2 := hs.ops
  rw [← hol] at hol2
  have hdl2 : dl ≤ 2000 := by have := hs.weight; have := wsum_len c.data; omega
  obtain ⟨name, data, ops, globals, procs, labels⟩ := c
  dsimp only at *
  clear hol hdl hc hs
  obtain ⟨E, hE⟩ : ∃ E, checkE ⟨name, data, ops, globals, procs, labels⟩ = E := ⟨_, rfl⟩
  rw [hE]
  have HE := Lib.hid hE
  clear hE
  by_cases hT : OC.tooMuch ⟨name, data, ops, globals, procs, labels⟩ = true
  · have hE2 : Hid (E = 2) := by show _ = _; rw [← HE.out]; unfold checkE; rw [if_pos hT]
    have HTM : Hid (∀ W, CodeIn W ⟨name, data, ops, globals, procs, labels⟩ da oa ga dl dc ol oc gl gc → Calls Tryd.prog 42 #[codeV ⟨name, data, ops, globals, procs, labels⟩ da oa ga dl dc ol oc gl gc] W fun e w' => e = .returned (.bool true) ∧ Below W.heap.size W w') := fun W hW => by have h := tooMuchR_c _ da oa ga dl dc ol oc gl gc W hW HS.out; rwa [hT] at h
    clear hT
    go_enter Tryd.func16, Tryd.ntmps16
    go_wp2_with (go_at_call 42; refine (HTM.out _ (HC.out.keep (by repeat (first | exact Below.refl _ _ | exact hbl | exact below_alloc _ _ | refine below_then ?_ (below_alloc _ _) | refine below_drewN ?_ _ | refine below_then ?_ hb5 | refine below_then ?_ hb4 | refine below_then ?_ hb3 | refine below_then ?_ hb2 | refine below_then ?_ hb1)))).mono ?_; rintro e w1 ⟨rfl, hb1⟩; obtain ⟨hcc1, hff1⟩ := bcell hb1; have z1 := hb1.size; have zw1 : w.heap.size < w1.heap.size := (by first | omega | (simp at z1; omega)))
    go_ret
    exact ⟨by rw [hE2.out]; rfl, (by repeat (first | exact Below.refl _ _ | exact hbl | exact below_alloc _ _ | refine below_then ?_ (below_alloc _ _) | refine below_drewN ?_ _ | refine below_then ?_ hb5 | refine below_then ?_ hb4 | refine below_then ?_ hb3 | refine below_then ?_ hb2 | refine below_then ?_ hb1))⟩
  rw [Bool.not_eq_true] at hT
  have HTM : Hid (∀ W, CodeIn W ⟨name, data, ops, globals, procs, labels⟩ da oa ga dl dc ol oc gl gc → Calls Tryd.prog 42 #[codeV ⟨name, data, ops, globals, procs, labels⟩ da oa ga dl dc ol oc gl gc] W fun e w' => e = .returned (.bool false) ∧ Below W.heap.size W w') := fun W hW => by have h := tooMuchR_c _ da oa ga dl dc ol oc gl gc W hW HS.out; rwa [hT] at h
  by_cases hp : procs < 0
  · have hE2 : Hid (E = 60) := by show _ = _; rw [← HE.out]; unfold checkE; rw [if_neg (by rw [hT]; simp), if_pos (.inl hp)]
    clear hT
    go_enter Tryd.func16, Tryd.ntmps16
    go_wp2_with (go_at_call 42; refine (HTM.out _ (HC.out.keep (by repeat (first | exact Below.refl _ _ | exact hbl | exact below_alloc _ _ | refine below_then ?_ (below_alloc _ _) | refine below_drewN ?_ _ | refine below_then ?_ hb5 | refine below_then ?_ hb4 | refine below_then ?_ hb3 | refine below_then ?_ hb2 | refine below_then ?_ hb1)))).mono ?_; rintro e w1 ⟨rfl, hb1⟩; obtain ⟨hcc1, hff1⟩ := bcell hb1; have z1 := hb1.size; have zw1 : w.heap.size < w1.heap.size := (by first | omega | (simp at z1; omega)))
    go_ret
    exact ⟨by rw [hE2.out]; rfl, (by repeat (first | exact Below.refl _ _ | exact hbl | exact below_alloc _ _ | refine below_then ?_ (below_alloc _ _) | refine below_drewN ?_ _ | refine below_then ?_ hb5 | refine below_then ?_ hb4 | refine below_then ?_ hb3 | refine below_then ?_ hb2 | refine below_then ?_ hb1))⟩
  by_cases hl : labels < 0
  · have hE2 : Hid (E = 60) := by show _ = _; rw [← HE.out]; unfold checkE; rw [if_neg (by rw [hT]; simp), if_pos (.inr (.inl hl))]
    clear hT
    go_enter Tryd.func16, Tryd.ntmps16
    go_wp2_with (go_at_call 42; refine (HTM.out _ (HC.out.keep (by repeat (first | exact Below.refl _ _ | exact hbl | exact below_alloc _ _ | refine below_then ?_ (below_alloc _ _) | refine below_drewN ?_ _ | refine below_then ?_ hb5 | refine below_then ?_ hb4 | refine below_then ?_ hb3 | refine below_then ?_ hb2 | refine below_then ?_ hb1)))).mono ?_; rintro e w1 ⟨rfl, hb1⟩; obtain ⟨hcc1, hff1⟩ := bcell hb1; have z1 := hb1.size; have zw1 : w.heap.size < w1.heap.size := (by first | omega | (simp at z1; omega)))
    go_ret
    exact ⟨by rw [hE2.out]; rfl, (by repeat (first | exact Below.refl _ _ | exact hbl | exact below_alloc _ _ | refine below_then ?_ (below_alloc _ _) | refine below_drewN ?_ _ | refine below_then ?_ hb5 | refine below_then ?_ hb4 | refine below_then ?_ hb3 | refine below_then ?_ hb2 | refine below_then ?_ hb1))⟩
  by_cases hA : areasB ⟨name, data, ops, globals, procs, labels⟩ = false
  · have hE2 : Hid (E = 60) := by show _ = _; rw [← HE.out]; unfold checkE; rw [if_neg (by rw [hT]; simp), if_pos (.inr (.inr hA))]
    have HAR : Hid (∀ W, CodeIn W ⟨name, data, ops, globals, procs, labels⟩ da oa ga dl dc ol oc gl gc → Calls Tryd.prog 43 #[codeV ⟨name, data, ops, globals, procs, labels⟩ da oa ga dl dc ol oc gl gc] W fun e w' => e = .returned (.bool false) ∧ Below W.heap.size W w') := fun W hW => by have h := areasR_c _ da oa ga dl dc ol oc gl gc W hW HS.out; rwa [hA] at h
    clear hT hA
    go_enter Tryd.func16, Tryd.ntmps16
    go_wp2_with (first | (go_at_call 42; refine (HTM.out _ (HC.out.keep (by repeat (first | exact Below.refl _ _ | exact hbl | exact below_alloc _ _ | refine below_then ?_ (below_alloc _ _) | refine below_drewN ?_ _ | refine below_then ?_ hb5 | refine below_then ?_ hb4 | refine below_then ?_ hb3 | refine below_then ?_ hb2 | refine below_then ?_ hb1)))).mono ?_; rintro e w1 ⟨rfl, hb1⟩; obtain ⟨hcc1, hff1⟩ := bcell hb1; have z1 := hb1.size; have zw1 : w.heap.size < w1.heap.size := (by first | omega | (simp at z1; omega))) | (go_at_call 43; refine (HAR.out _ (HC.out.keep (by repeat (first | exact Below.refl _ _ | exact hbl | exact below_alloc _ _ | refine below_then ?_ (below_alloc _ _) | refine below_drewN ?_ _ | refine below_then ?_ hb5 | refine below_then ?_ hb4 | refine below_then ?_ hb3 | refine below_then ?_ hb2 | refine below_then ?_ hb1)))).mono ?_; rintro e w2 ⟨rfl, hb2⟩; obtain ⟨hcc2, hff2⟩ := bcell hb2; have z2 := hb2.size; have zw2 : w.heap.size < w2.heap.size := (by first | omega | (simp at z2; omega))))
    go_ret
    exact ⟨by rw [hE2.out]; rfl, (by repeat (first | exact Below.refl _ _ | exact hbl | exact below_alloc _ _ | refine below_then ?_ (below_alloc _ _) | refine below_drewN ?_ _ | refine below_then ?_ hb5 | refine below_then ?_ hb4 | refine below_then ?_ hb3 | refine below_then ?_ hb2 | refine below_then ?_ hb1))⟩
  have hA2 : areasB ⟨name, data, ops, globals, procs, labels⟩ = true := by simpa using hA
  have HAR : Hid (∀ W, CodeIn W ⟨name, data, ops, globals, procs, labels⟩ da oa ga dl dc ol oc gl gc → Calls Tryd.prog 43 #[codeV ⟨name, data, ops, globals, procs, labels⟩ da oa ga dl dc ol oc gl gc] W fun e w' => e = .returned (.bool true) ∧ Below W.heap.size W w') := fun W hW => by have h := areasR_c _ da oa ga dl dc ol oc gl gc W hW HS.out; rwa [hA2] at h
  have hE3 : Hid (E = if ops.all (OC.numB (data.length : Int) procs labels) = false then 60 else if OC.orderOk ⟨name, data, ops, globals, procs, labels⟩ = false then 60 else match OC.plc ops 0 (OC.t0 ⟨name, data, ops, globals, procs, labels⟩) with
    | none => 60
    | some t => if OC.namedB t (OC.prc 0 ops) ops (OC.prc 0 ops) = false then 60 else if OC.deepB ops t 0 false OC.oz ops = false then 61 else 0) := by
    show _ = _
    rw [← HE.out]; unfold checkE; rw [if_neg (by rw [hT]; simp), if_neg (fun h => h.elim hp (fun h => h.elim hl hA))]
  have hlab : labels ≤ 20000 := by unfold OC.tooMuch at hT; simp at hT; omega
  have hl0 : 0 ≤ labels := by omega
  clear hT hA hA2 HE hl
  go_enter Tryd.func16, Tryd.ntmps16
  go_wp2_with (first | (go_at_call 42; refine (HTM.out _ (HC.out.keep (by repeat (first | exact Below.refl _ _ | exact hbl | exact below_alloc _ _ | refine below_then ?_ (below_alloc _ _) | refine below_drewN ?_ _ | refine below_then ?_ hb5 | refine below_then ?_ hb4 | refine below_then ?_ hb3 | refine below_then ?_ hb2 | refine below_then ?_ hb1)))).mono ?_; rintro e w1 ⟨rfl, hb1⟩; obtain ⟨hcc1, hff1⟩ := bcell hb1; have z1 := hb1.size; have zw1 : w.heap.size < w1.heap.size := (by first | omega | (simp at z1; omega))) | (go_at_call 43; refine (HAR.out _ (HC.out.keep (by repeat (first | exact Below.refl _ _ | exact hbl | exact below_alloc _ _ | refine below_then ?_ (below_alloc _ _) | refine below_drewN ?_ _ | refine below_then ?_ hb5 | refine below_then ?_ hb4 | refine below_then ?_ hb3 | refine below_then ?_ hb2 | refine below_then ?_ hb1)))).mono ?_; rintro e w2 ⟨rfl, hb2⟩; obtain ⟨hcc2, hff2⟩ := bcell hb2; have z2 := hb2.size; have zw2 : w.heap.size < w2.heap.size := (by first | omega | (simp at z2; omega))))
  go_loopw [3] (fun i wr => ∃ (k : Nat), k ≤ ol ∧ i = .int .i64 k ∧ Hid (ops.all (OC.numB (data.length : Int) procs labels) = (ops.drop k).all (OC.numB (data.length : Int) procs labels)) ∧ BoxC wr w.heap.size ⟨name, data, ops, globals, procs, labels⟩ da oa ga dl dc ol oc gl gc ∧ Below w.heap.size w wr) (fun i _ => ol - (intOf i).toNat)
  case atStart => exact ⟨0, Nat.zero_le _, rfl, (rfl : ops.all _ = _), (BoxC.new w ⟨name, data, ops, globals, procs, labels⟩ _ _ _ _ _ _ _ _ _ _).keep (below_then hb1 hb2) (by simp), (by repeat (first | exact Below.refl _ _ | exact hbl | exact below_alloc _ _ | refine below_then ?_ (below_alloc _ _) | refine below_drewN ?_ _ | refine below_then ?_ hb5 | refine below_then ?_ hb4 | refine below_then ?_ hb3 | refine below_then ?_ hb2 | refine below_then ?_ hb1))⟩
  case round =>
    clear hb1 hb2 hcc1 hcc2 hff1 hff2 z1 z2
    obtain ⟨k, hk, rfl, hq, hbox, hbl⟩ := hrel
    have HBOX := Lib.hid hbox
    have hwz := hbox.lt
    obtain ⟨c0, c1, c2, c3, c4, c5⟩ := hbox
    by_cases hlt : k < ol
    · obtain ⟨hx1, b, off, rfl, h0, h1, h2⟩ := (HC.out.keep hbl).ops.get hlt
      clear hx1
      have hkl : k < ops.length := by rw [← HO.out]; exact hlt
      have hd := dropAt (d := OC.oz) hkl
      generalize ops.getD k OC.oz = x at *
      have k1 : (k : Int) < (ol : Int) := by omega
      obtain ⟨V, hV⟩ : ∃ V, OC.numB (data.length : Int) procs labels x = V := ⟨_, rfl⟩
      have HNU : Hid (∀ W, Calls Tryd.prog 44 #[codeV ⟨name, data, ops, globals, procs, labels⟩ da (some ⟨b, off, none⟩) ga dl dc ol oc gl gc, opVal x] W fun e w' => e = .returned (.bool V) ∧ Below W.heap.size W w') := fun W => by
        have h := numbersR_c ⟨name, data, ops, globals, procs, labels⟩ da (some ⟨b, off, none⟩) ga dl dc ol oc gl gc x W (by omega)
        rw [HD.out] at h ⊢
        rwa [hV] at h
      obtain ⟨op, n, m⟩ := x
      dsimp only at h0 h1 h2
      cases V
      · have hE2 : Hid (E = 60) := by
          show _ = _
          have e2 : ops.all (OC.numB (data.length : Int) procs labels) = false := by rw [hq.out, hd]; simp [hV]
          rw [hE3.out, if_pos e2]
        clear hd hq hV
        go_wp2
        go_still_tail 6, (by kernel_rfl)
        change wpList _ _ _ _ _ wr.drew
        go_wp2_with (go_at_call 44; refine (HNU.out _).mono ?_; rintro e w1 ⟨rfl, hb1⟩)
        go_ret
        exact ⟨by rw [hE2.out]; rfl, below_then (below_drewN hbl 1) hb1⟩
      · have hn : Hid (ops.all (OC.numB (data.length : Int) procs labels) = (ops.drop (k + 1)).all (OC.numB (data.length : Int) procs labels)) := by
          show _ = _
          rw [hq.out, hd]; simp [hV]
        clear hd hq hV
        go_wp2
        go_still_tail 6, (by kernel_rfl)
        change wpList _ _ _ _ _ wr.drew
        go_wp2_with (go_at_call 44; refine (HNU.out _).mono ?_; rintro e w1 ⟨rfl, hb1⟩)
        go_roundw
        case rel => exact ⟨k + 1, by omega, by go_num, hn, (HBOX.out.keep (below_drewN (Below.refl _ _) 1) hwz).keep hb1 hwz, below_then (below_drewN hbl 1) hb1⟩
        case measure => simp [intOf]; omega
    · obtain rfl : ol = k := by omega
      have HAL : Hid (ops.all (OC.numB (data.length : Int) procs labels) = true) := by
        show _ = _
        rw [hq.out, List.drop_eq_nil_of_le (by rw [← HO.out]; exact Nat.le_refl _)]; rfl
      have HNO : Hid (NumOk ⟨name, data, ops, globals, procs, labels⟩) := fun o ho => List.all_eq_true.1 HAL.out o ho
      clear hq
      by_cases hO : OC.orderOk ⟨name, data, ops, globals, procs, labels⟩ = true
      case neg =>
        rw [Bool.not_eq_true] at hO
        have hE2 : Hid (E = 60) := by show _ = _; rw [hE3.out, if_neg (by rw [HAL.out]; simp), if_pos hO]
        have HOR : Hid (∀ W, CodeIn W ⟨name, data, ops, globals, procs, labels⟩ da oa ga dl dc ol oc gl gc → Calls Tryd.prog 45 #[codeV ⟨name, data, ops, globals, procs, labels⟩ da oa ga dl dc ol oc gl gc] W fun e w' => e = .returned (.bool false) ∧ Below W.heap.size W w') := fun W hW => by have h := orderR_c _ da oa ga dl dc ol oc gl gc W hW HS.out HNO.out; rwa [hO] at h
        clear hO
        go_wp2_with (go_at_call 45; refine (HOR.out _ (HC.out.keep (by repeat (first | exact Below.refl _ _ | exact hbl | exact below_alloc _ _ | refine below_then ?_ (below_alloc _ _) | refine below_drewN ?_ _ | refine below_then ?_ hb5 | refine below_then ?_ hb4 | refine below_then ?_ hb3)))).mono ?_; rintro e w3 ⟨rfl, hb3⟩; obtain ⟨hcc3, hff3⟩ := bcell hb3; have z3 := hb3.size; have zw3 : w.heap.size < w3.heap.size := (by first | omega | (simp at z3; omega)))
        go_ret
        exact ⟨by rw [hE2.out]; rfl, (by repeat (first | exact Below.refl _ _ | exact hbl | exact below_alloc _ _ | refine below_then ?_ (below_alloc _ _) | refine below_drewN ?_ _ | refine below_then ?_ hb5 | refine below_then ?_ hb4 | refine below_then ?_ hb3))⟩
      have HOR : Hid (∀ W, CodeIn W ⟨name, data, ops, globals, procs, labels⟩ da oa ga dl dc ol oc gl gc → Calls Tryd.prog 45 #[codeV ⟨name, data, ops, globals, procs, labels⟩ da oa ga dl dc ol oc gl gc] W fun e w' => e = .returned (.bool true) ∧ Below W.heap.size W w') := fun W hW => by have h := orderR_c _ da oa ga dl dc ol oc gl gc W hW HS.out HNO.out; rwa [hO] at h
      have HF := Lib.hid (order_first hO)
      have hE4 : Hid (E = match OC.plc ops 0 (OC.t0 ⟨name, data, ops, globals, procs, labels⟩) with
        | none => 60
        | some t => if OC.namedB t (OC.prc 0 ops) ops (OC.prc 0 ops) = false then 60 else if OC.deepB ops t 0 false OC.oz ops = false then 61 else 0) := by
        show _ = _
        rw [hE3.out, if_neg (by rw [HAL.out]; simp), if_neg (by rw [hO]; simp)]
      clear hO hE3
      have HPR := Lib.hid (fun (W : World) (hW : CodeIn W ⟨name, data, ops, globals, procs, labels⟩ da oa ga dl dc ol oc gl gc) => placedR_c _ da oa ga dl dc ol oc gl gc W hW HS.out HNO.out hl0 hlab)
      cases hp4 : OC.plc ops 0 (OC.t0 ⟨name, data, ops, globals, procs, labels⟩) with
      | none =>
        have hE2 : Hid (E = 60) := by show _ = _; rw [hE4.out, hp4]
        have HPL : Hid (∀ W, CodeIn W ⟨name, data, ops, globals, procs, labels⟩ da oa ga dl dc ol oc gl gc → Calls Tryd.prog 46 #[codeV ⟨name, data, ops, globals, procs, labels⟩ da oa ga dl dc ol oc gl gc] W fun e w' => (∃ a n m b k l, e = .returned (.tuple #[.agg #[.slice a n m, .slice b k l], .bool false])) ∧ Below W.heap.size W w') := fun W hW => (HPR.out W hW).mono fun e w' ⟨h1, h2⟩ => by
          refine ⟨?_, h2⟩
          unfold PlacedR at h1
          rw [show OC.plc (OC.Code.ops ⟨name, data, ops, globals, procs, labels⟩) 0 (OC.t0 ⟨name, data, ops, globals, procs, labels⟩) = none from hp4] at h1
          exact h1
        clear hp4 HPR
        go_wp2_with (first | (go_at_call 45; refine (HOR.out _ (HC.out.keep (by repeat (first | exact Below.refl _ _ | exact hbl | exact below_alloc _ _ | refine below_then ?_ (below_alloc _ _) | refine below_drewN ?_ _ | refine below_then ?_ hb5 | refine below_then ?_ hb4 | refine below_then ?_ hb3)))).mono ?_; rintro e w3 ⟨rfl, hb3⟩; obtain ⟨hcc3, hff3⟩ := bcell hb3; have z3 := hb3.size; have zw3 : w.heap.size < w3.heap.size := (by first | omega | (simp at z3; omega))) | (go_at_call 46; refine (HPL.out _ (HC.out.keep (by repeat (first | exact Below.refl _ _ | exact hbl | exact below_alloc _ _ | refine below_then ?_ (below_alloc _ _) | refine below_drewN ?_ _ | refine below_then ?_ hb5 | refine below_then ?_ hb4 | refine below_then ?_ hb3)))).mono ?_; rintro e w4 ⟨⟨pa, pn, pm, pb, pk, pl, rfl⟩, hb4⟩; obtain ⟨hcc4, hff4⟩ := bcell hb4; have z4 := hb4.size; have zw4 : w.heap.size < w4.heap.size := (by first | omega | (simp at z4; omega))))
        go_ret
        exact ⟨by rw [hE2.out]; rfl, (by repeat (first | exact Below.refl _ _ | exact hbl | exact below_alloc _ _ | refine below_then ?_ (below_alloc _ _) | refine below_drewN ?_ _ | refine below_then ?_ hb5 | refine below_then ?_ hb4 | refine below_then ?_ hb3))⟩
      | some t =>
        by_cases hN : OC.namedB t (OC.prc 0 ops) ops (OC.prc 0 ops) = true
        case neg =>
          have hE2 : Hid (E = 60) := by show _ = _; rw [hE4.out, hp4]; simp [hN]
          have HPL : Hid (∀ W, CodeIn W ⟨name, data, ops, globals, procs, labels⟩ da oa ga dl dc ol oc gl gc → Calls Tryd.prog 46 #[codeV ⟨name, data, ops, globals, procs, labels⟩ da oa ga dl dc ol oc gl gc] W fun e w' => (∃ a n m b k l, e = .returned (.tuple #[.agg #[.slice a n m, .slice b k l], .bool false])) ∧ Below W.heap.size W w') := fun W hW => (HPR.out W hW).mono fun e w' ⟨h1, h2⟩ => by
            refine ⟨?_, h2⟩
            unfold PlacedR at h1
            rw [show OC.plc (OC.Code.ops ⟨name, data, ops, globals, procs, labels⟩) 0 (OC.t0 ⟨name, data, ops, globals, procs, labels⟩) = some t from hp4] at h1
            simp only [if_neg hN] at h1
            exact h1
          clear hp4 HPR hN
          go_wp2_with (first | (go_at_call 45; refine (HOR.out _ (HC.out.keep (by repeat (first | exact Below.refl _ _ | exact hbl | exact below_alloc _ _ | refine below_then ?_ (below_alloc _ _) | refine below_drewN ?_ _ | refine below_then ?_ hb5 | refine below_then ?_ hb4 | refine below_then ?_ hb3)))).mono ?_; rintro e w3 ⟨rfl, hb3⟩; obtain ⟨hcc3, hff3⟩ := bcell hb3; have z3 := hb3.size; have zw3 : w.heap.size < w3.heap.size := (by first | omega | (simp at z3; omega))) | (go_at_call 46; refine (HPL.out _ (HC.out.keep (by repeat (first | exact Below.refl _ _ | exact hbl | exact below_alloc _ _ | refine below_then ?_ (below_alloc _ _) | refine below_drewN ?_ _ | refine below_then ?_ hb5 | refine below_then ?_ hb4 | refine below_then ?_ hb3)))).mono ?_; rintro e w4 ⟨⟨pa, pn, pm, pb, pk, pl, rfl⟩, hb4⟩; obtain ⟨hcc4, hff4⟩ := bcell hb4; have z4 := hb4.size; have zw4 : w.heap.size < w4.heap.size := (by first | omega | (simp at z4; omega))))
          go_ret
          exact ⟨by rw [hE2.out]; rfl, (by repeat (first | exact Below.refl _ _ | exact hbl | exact below_alloc _ _ | refine below_then ?_ (below_alloc _ _) | refine below_drewN ?_ _ | refine below_then ?_ hb5 | refine below_then ?_ hb4 | refine below_then ?_ hb3))⟩
        have htl : t.length = (labels + 1).toNat := by have := plc_len _ _ _ _ hp4; rw [this]; simp [OC.t0]
        have HPL : Hid (∀ W, CodeIn W ⟨name, data, ops, globals, procs, labels⟩ da oa ga dl dc ol oc gl gc → Calls Tryd.prog 46 #[codeV ⟨name, data, ops, globals, procs, labels⟩ da oa ga dl dc ol oc gl gc] W fun e w' => (∃ ta tc b k l, e = .returned (.tuple #[.agg #[.slice ta t.length tc, .slice b k l], .bool true]) ∧ Rd .i64 w' (.slice ta t.length tc) t) ∧ Below W.heap.size W w') := fun W hW => (HPR.out W hW).mono fun e w' ⟨h1, h2⟩ => by
          refine ⟨?_, h2⟩
          unfold PlacedR at h1
          rw [show OC.plc (OC.Code.ops ⟨name, data, ops, globals, procs, labels⟩) 0 (OC.t0 ⟨name, data, ops, globals, procs, labels⟩) = some t from hp4] at h1
          simp only [if_pos hN] at h1
          exact h1
        obtain ⟨D, hD⟩ : ∃ D, OC.deepB ops t 0 false OC.oz ops = D := ⟨_, rfl⟩
        have hE2 : Hid (E = if D = false then 61 else 0) := by show _ = _; rw [hE4.out, hp4]; simp [hN, hD]
        have HDP : Hid (∀ W ta tc qv, CodeIn W ⟨name, data, ops, globals, procs, labels⟩ da oa ga dl dc ol oc gl gc → Rd .i64 W (.slice ta t.length tc) t → Calls Tryd.prog 47 #[codeV ⟨name, data, ops, globals, procs, labels⟩ da oa ga dl dc ol oc gl gc, .agg #[.slice ta t.length tc, qv]] W fun e w' => e = .returned (.bool D) ∧ Below W.heap.size W w') := fun W ta tc qv hW hR => by
          have h := deepR_c _ da oa ga dl dc ol oc gl gc t ta tc qv W hW HS.out HNO.out HF.out hR (by show (t.length : Int) = labels + 1; omega) (by omega) (fun o ho => named_at hN (by rw [prc_len]) o ho)
          rwa [show OC.deepB (OC.Code.ops ⟨name, data, ops, globals, procs, labels⟩) t 0 false OC.oz (OC.Code.ops ⟨name, data, ops, globals, procs, labels⟩) = D from hD] at h
        clear hp4 HPR hN htl hD hE4
        obtain ⟨tl, htl⟩ : ∃ tl, t.length = tl := ⟨_, rfl⟩
        rw [htl] at HPL HDP
        clear htl
        have A5 : True := trivial
        cases D
        · go_wp2_with (first | (go_at_call 45; refine (HOR.out _ (HC.out.keep (by repeat (first | exact Below.refl _ _ | exact hbl | exact below_alloc _ _ | refine below_then ?_ (below_alloc _ _) | refine below_drewN ?_ _ | refine below_then ?_ hb5 | refine below_then ?_ hb4 | refine below_then ?_ hb3)))).mono ?_; rintro e w3 ⟨rfl, hb3⟩; obtain ⟨hcc3, hff3⟩ := bcell hb3; have z3 := hb3.size; have zw3 : w.heap.size < w3.heap.size := (by first | omega | (simp at z3; omega))) | (go_at_call 46; refine (HPL.out _ (HC.out.keep (by repeat (first | exact Below.refl _ _ | exact hbl | exact below_alloc _ _ | refine below_then ?_ (below_alloc _ _) | refine below_drewN ?_ _ | refine below_then ?_ hb5 | refine below_then ?_ hb4 | refine below_then ?_ hb3)))).mono ?_; rintro e w4 ⟨⟨ta, tc, qb, qk, ql, rfl, hrd⟩, hb4⟩; obtain ⟨hcc4, hff4⟩ := bcell hb4; have z4 := hb4.size; have zw4 : w.heap.size < w4.heap.size := (by first | omega | (simp at z4; omega))) | (go_at_call 47; refine (HDP.out _ _ _ _ (HC.out.keep (by repeat (first | exact Below.refl _ _ | exact hbl | exact below_alloc _ _ | refine below_then ?_ (below_alloc _ _) | refine below_drewN ?_ _ | refine below_then ?_ hb5 | refine below_then ?_ hb4 | refine below_then ?_ hb3))) (hrd.keep (below_alloc _ _))).mono ?_; rintro e w5 ⟨rfl, hb5⟩))
          go_ret
          exact ⟨by rw [hE2.out]; rfl, (by repeat (first | exact Below.refl _ _ | exact hbl | exact below_alloc _ _ | refine below_then ?_ (below_alloc _ _) | refine below_drewN ?_ _ | refine below_then ?_ hb5 | refine below_then ?_ hb4 | refine below_then ?_ hb3))⟩
        · go_wp2_with (first | (go_at_call 45; refine (HOR.out _ (HC.out.keep (by repeat (first | exact Below.refl _ _ | exact hbl | exact below_alloc _ _ | refine below_then ?_ (below_alloc _ _) | refine below_drewN ?_ _ | refine below_then ?_ hb5 | refine below_then ?_ hb4 | refine below_then ?_ hb3)))).mono ?_; rintro e w3 ⟨rfl, hb3⟩; obtain ⟨hcc3, hff3⟩ := bcell hb3; have z3 := hb3.size; have zw3 : w.heap.size < w3.heap.size := (by first | omega | (simp at z3; omega))) | (go_at_call 46; refine (HPL.out _ (HC.out.keep (by repeat (first | exact Below.refl _ _ | exact hbl | exact below_alloc _ _ | refine below_then ?_ (below_alloc _ _) | refine below_drewN ?_ _ | refine below_then ?_ hb5 | refine below_then ?_ hb4 | refine below_then ?_ hb3)))).mono ?_; rintro e w4 ⟨⟨ta, tc, qb, qk, ql, rfl, hrd⟩, hb4⟩; obtain ⟨hcc4, hff4⟩ := bcell hb4; have z4 := hb4.size; have zw4 : w.heap.size < w4.heap.size := (by first | omega | (simp at z4; omega))) | (go_at_call 47; refine (HDP.out _ _ _ _ (HC.out.keep (by repeat (first | exact Below.refl _ _ | exact hbl | exact below_alloc _ _ | refine below_then ?_ (below_alloc _ _) | refine below_drewN ?_ _ | refine below_then ?_ hb5 | refine below_then ?_ hb4 | refine below_then ?_ hb3))) (hrd.keep (below_alloc _ _))).mono ?_; rintro e w5 ⟨rfl, hb5⟩))
          go_ret
          exact ⟨by rw [hE2.out]; rfl, (by repeat (first | exact Below.refl _ _ | exact hbl | exact below_alloc _ _ | refine below_then ?_ (below_alloc _ _) | refine below_drewN ?_ _ | refine below_then ?_ hb5 | refine below_then ?_ hb4 | refine below_then ?_ hb3))⟩
end Go.Proofs.YthlakfgpmggceaaDoor
