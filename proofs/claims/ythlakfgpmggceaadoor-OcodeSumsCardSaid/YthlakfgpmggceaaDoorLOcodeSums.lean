/- The card of the statement OcodeSums holds: the law returns true for all its arguments, and they read behind the call as before; the table of instructions that the row lists is tied to the program's text. -/
import Derived.Test.YthlakfgpmggceaaDoorOcLd
import Derived.Test.YthlakfgpmggceaaDoorOcAw
import Derived.Test.YthlakfgpmggceaaDoorOcSd
import Derived.Test.YthlakfgpmggceaaDoorOcLw
import Derived.HandedShaped
namespace Go.Proofs.YthlakfgpmggceaaDoor.ocodeSums
open Go.ChangeShapes Go.WideShapes Go.ChangeAt Go.RowKit Go.Joins 
open Go.ChangeMaps (open_string shut_string)
set_option linter.unusedVariables false
set_option linter.unusedSimpArgs false
set_option maxRecDepth 100000
set_option maxRecDepth 100000 in
set_option maxHeartbeats 8000000 in
theorem walk (c0 : OC.Code) (da0 oa0 ga0 : Option Addr) (dl0 dc0 ol0 oc0 gl0 gc0 : Nat) (w : World) (w0 : CodeIn w c0 da0 oa0 ga0 dl0 dc0 ol0 oc0 gl0 gc0) (z0 : OkC c0) (hi : InstAt w) :
    Calls Tryd.prog 12 #[codeV c0 da0 oa0 ga0 dl0 dc0 ol0 oc0 gl0 gc0] w fun e w' => e = .returned (.bool true) ∧ Below w.heap.size w w' := by
  have HC := Lib.hid (CodeI.mk w0 hi)
  have htx : ∀ d ∈ c0.data, d.text.length ≤ 140737488351232 := fun d hd => (z0.data d hd).1
  have HV : Hid (∀ W, CodeI W c0 da0 oa0 ga0 dl0 dc0 ol0 oc0 gl0 gc0 → Calls Tryd.prog 13 #[codeV c0 da0 oa0 ga0 dl0 dc0 ol0 oc0 gl0 gc0] W fun e w' => e = .returned (.bool (heavyC c0 40100)) ∧ Below W.heap.size W w') := fun W hW => heavy_c c0 da0 oa0 ga0 dl0 dc0 ol0 oc0 gl0 gc0 W hW.toCodeIn htx
  by_cases hh : heavyC c0 40100 = true
  · rw [hh] at HV
    obtain ⟨name, data, ops, globals, procs, labels⟩ := c0
    clear w0 z0 hh htx
    go_enter Tryd.func12, Tryd.ntmps12
    go_wp2_with (first
      | (go_at_call 13; refine (HV.out _ (HC.out.keep (below_alloc _ _))).mono ?_; rintro e w1 ⟨rfl, hb1⟩; obtain ⟨hcc1, hff1⟩ := bcell hb1; have z1 := hb1.size; have zw1 : w.heap.size < w1.heap.size := (by first | omega | (simp at z1; omega)))
      | (go_at_call 14; refine (awake_c _ (HC.out.inst.keep (by repeat (first | assumption | exact Below.refl _ _ | exact below_alloc _ _ | refine below_back (by assumption) ?_ | refine below_then ?_ (below_alloc _ _) | refine Below.drew ?_ | refine below_drewN ?_ _ | refine below_then ?_ hb9 | refine below_then ?_ hb8 | refine below_then ?_ hb7 | refine below_then ?_ hb6 | refine below_then ?_ hb5 | refine below_then ?_ hb4 | refine below_then ?_ hb3 | refine below_then ?_ hb2 | refine below_then ?_ hb1 | exact HBL.out | exact HBW.out | exact HL.out)) (Nat.le_refl _))).mono ?_; rintro e w2 ⟨rfl, hb2⟩; obtain ⟨hcc2, hff2⟩ := bcell hb2; have z2 := hb2.size; have zw2 : w.heap.size < w2.heap.size := (by first | omega | (simp at z2; omega))))
    go_ret
    exact ⟨rfl, (by repeat (first | exact Below.refl _ _ | exact below_alloc _ _ | refine below_then ?_ (below_alloc _ _) | refine Below.drew ?_ | refine below_drewN ?_ _ | refine below_then ?_ hb9 | refine below_then ?_ hb8 | refine below_then ?_ hb7 | refine below_then ?_ hb6 | refine below_then ?_ hb5 | refine below_then ?_ hb4 | refine below_then ?_ hb3 | refine below_then ?_ hb2 | refine below_then ?_ hb1))⟩
  have hs : Small c0 := small_of (by simpa using hh)
  rw [Bool.not_eq_true] at hh
  rw [hh] at HV
  have HS := Lib.hid hs
  by_cases hE : checkE c0 = 0
  case neg =>
    obtain ⟨E, hE2⟩ : ∃ E, checkQ c0 = E := ⟨_, rfl⟩
    have hE3 : E ≠ 0 := fun h => hE ((checkQ_zero c0).1 (hE2.trans h))
    have ee : ((E : Int) != 0) = true := by simp; omega
    have HJ : Hid (∀ W, CodeI W c0 da0 oa0 ga0 dl0 dc0 ol0 oc0 gl0 gc0 → Calls Tryd.prog 24 #[codeV c0 da0 oa0 ga0 dl0 dc0 ol0 oc0 gl0 gc0] W fun e w' => ListE [] E e w' ∧ Below W.heap.size W w') := fun W hW => by have h := JumpsP_c c0 da0 oa0 ga0 dl0 dc0 ol0 oc0 gl0 gc0 W hW.toCodeIn hs hW.inst; rw [jmpA, if_neg hE, hE2] at h; exact h
    obtain ⟨name, data, ops, globals, procs, labels⟩ := c0
    clear w0 z0 hh htx hs hE hE2
    go_enter Tryd.func12, Tryd.ntmps12
    go_wp2_with (first
      | (go_at_call 13; refine (HV.out _ (HC.out.keep (below_alloc _ _))).mono ?_; rintro e w1 ⟨rfl, hb1⟩; obtain ⟨hcc1, hff1⟩ := bcell hb1; have z1 := hb1.size; have zw1 : w.heap.size < w1.heap.size := (by first | omega | (simp at z1; omega)))
      | (go_at_call 24; refine (HJ.out _ (HC.out.keep (by repeat (first | exact Below.refl _ _ | exact below_alloc _ _ | refine below_then ?_ (below_alloc _ _) | refine Below.drew ?_ | refine below_drewN ?_ _ | refine below_then ?_ hb9 | refine below_then ?_ hb8 | refine below_then ?_ hb7 | refine below_then ?_ hb6 | refine below_then ?_ hb5 | refine below_then ?_ hb4 | refine below_then ?_ hb3 | refine below_then ?_ hb2 | refine below_then ?_ hb1)))).mono ?_; rintro e w2 ⟨⟨v2, rfl, hr2⟩, hb2⟩; obtain ⟨hcc2, hff2⟩ := bcell hb2; have z2 := hb2.size; have zw2 : w.heap.size < w2.heap.size := (by first | omega | (simp at z2; omega)))
      | (go_at_call 14; refine (awake_c _ (HC.out.inst.keep (by repeat (first | assumption | exact Below.refl _ _ | exact below_alloc _ _ | refine below_back (by assumption) ?_ | refine below_then ?_ (below_alloc _ _) | refine Below.drew ?_ | refine below_drewN ?_ _ | refine below_then ?_ hb9 | refine below_then ?_ hb8 | refine below_then ?_ hb7 | refine below_then ?_ hb6 | refine below_then ?_ hb5 | refine below_then ?_ hb4 | refine below_then ?_ hb3 | refine below_then ?_ hb2 | refine below_then ?_ hb1 | exact HBL.out | exact HBW.out | exact HL.out)) (Nat.le_refl _))).mono ?_; rintro e w3 ⟨rfl, hb3⟩; obtain ⟨hcc3, hff3⟩ := bcell hb3; have z3 := hb3.size; have zw3 : w.heap.size < w3.heap.size := (by first | omega | (simp at z3; omega))))
    go_ret
    exact ⟨rfl, (by repeat (first | exact Below.refl _ _ | exact below_alloc _ _ | refine below_then ?_ (below_alloc _ _) | refine Below.drew ?_ | refine below_drewN ?_ _ | refine below_then ?_ hb9 | refine below_then ?_ hb8 | refine below_then ?_ hb7 | refine below_then ?_ hb6 | refine below_then ?_ hb5 | refine below_then ?_ hb4 | refine below_then ?_ hb3 | refine below_then ?_ hb2 | refine below_then ?_ hb1))⟩
  obtain ⟨hsum, hnn, hlen⟩ := jumps_sum hE
  obtain ⟨J, hJ⟩ : ∃ J, jmpG c0.ops (List.replicate c0.labels.toNat 0) = J := ⟨_, rfl⟩
  rw [hJ] at hsum hnn hlen
  have HJ : Hid (∀ W, CodeI W c0 da0 oa0 ga0 dl0 dc0 ol0 oc0 gl0 gc0 → Calls Tryd.prog 24 #[codeV c0 da0 oa0 ga0 dl0 dc0 ol0 oc0 gl0 gc0] W fun e w' => ListE J 0 e w' ∧ Below W.heap.size W w') := fun W hW => by have h := JumpsP_c c0 da0 oa0 ga0 dl0 dc0 ol0 oc0 gl0 gc0 W hW.toCodeIn hs hW.inst; rw [jmpA, if_pos hE, (checkQ_zero c0).2 hE, hJ] at h; exact h
  obtain ⟨hol, hoc, _⟩ := w0.ops.len
  have hol2 := hs.ops
  rw [← hol] at hol2
  have hcb := cntL_bd c0.ops
  rw [← hol] at hcb
  have HO := Lib.hid hol
  have HSUM := Lib.hid hsum
  have HNN := Lib.hid hnn
  have HCB := Lib.hid hcb
  obtain ⟨name, data, ops, globals, procs, labels⟩ := c0
  dsimp only at *
  obtain ⟨jl, hjl⟩ : ∃ jl, J.length = jl := ⟨_, rfl⟩
  rw [hjl] at hlen
  subst hlen
  have HJL := Lib.hid hjl
  have hjb : jl ≤ 20000 := by
    have := (checkE_ok hE).2.2.2.1
    dsimp only at this
    omega
  have HX : Hid (∀ x ∈ J, x ≤ 40100) := by
    intro x hx
    have h1 := hcb.2
    have key : ∀ (l : List Int), (∀ y ∈ l, 0 ≤ y) → ∀ x ∈ l, x ≤ sumI l := by
      intro l
      induction l with
      | nil => intro _ x hx; simp at hx
      | cons a r ih =>
        intro h x hx
        rw [sumI]
        have h0 := h a (List.mem_cons_self ..)
        have h2 := sumI_nonneg (fun y hy => h y (List.mem_cons_of_mem a hy))
        rcases List.mem_cons.1 hx with rfl | hx
        · omega
        · have := ih (fun y hy => h y (List.mem_cons_of_mem a hy)) x hx; omega
    have := key J hnn x hx
    omega
  clear w0 z0 hh htx hs hE hJ hsum hnn hjl hcb hol
  go_enter Tryd.func12, Tryd.ntmps12
  go_wp2_with (first
    | (go_at_call 13; refine (HV.out _ (HC.out.keep (below_alloc _ _))).mono ?_; rintro e w1 ⟨rfl, hb1⟩; obtain ⟨hcc1, hff1⟩ := bcell hb1; have z1 := hb1.size; have zw1 : w.heap.size < w1.heap.size := (by first | omega | (simp at z1; omega)))
    | (go_at_call 24; refine (HJ.out _ (HC.out.keep (by repeat (first | exact Below.refl _ _ | exact below_alloc _ _ | refine below_then ?_ (below_alloc _ _) | refine Below.drew ?_ | refine below_drewN ?_ _ | refine below_then ?_ hb9 | refine below_then ?_ hb8 | refine below_then ?_ hb7 | refine below_then ?_ hb6 | refine below_then ?_ hb5 | refine below_then ?_ hb4 | refine below_then ?_ hb3 | refine below_then ?_ hb2 | refine below_then ?_ hb1)))).mono ?_; rintro e w2 ⟨⟨v2, rfl, hr2⟩, hb2⟩; obtain ⟨hcc2, hff2⟩ := bcell hb2; have z2 := hb2.size; have zw2 : w.heap.size < w2.heap.size := (by first | omega | (simp at z2; omega))))
  obtain ⟨ja, jc, rfl, hjc, hjat⟩ := hr2
  rw [HJL.out] at hjc hjat ⊢
  have HJA := Lib.hid hjat
  have HB2 := Lib.hid ((BoxC.new w ⟨name, data, ops, globals, procs, (jl : Int)⟩ da0 oa0 ga0 dl0 dc0 ol0 oc0 gl0 gc0 26).keep (below_then hb1 hb2) (by simp))
  have HBL := Lib.hid (below_then (below_then (below_alloc w _) hb1) hb2)
  have z20 : w.heap.size < w2.heap.size := zw2
  clear hjat hcc1 hcc2 hff1 hff2 z1 z2 zw1 zw2 hb1 hb2
  go_wp2
  go_loopw [5, 7] (fun s i wr => ∃ (k : Nat), k ≤ jl ∧ i = .int .i64 k ∧ s = .int .i64 (sumI (J.take k)) ∧ BoxC wr w.heap.size ⟨name, data, ops, globals, procs, (jl : Int)⟩ da0 oa0 ga0 dl0 dc0 ol0 oc0 gl0 gc0 ∧ Below w2.heap.size w2 wr) (fun _ i _ => jl - (intOf i).toNat)
  case atStart => exact ⟨0, Nat.zero_le _, rfl, by simp [sumI], HB2.out, Below.refl _ _⟩
  case round =>
    clear HB2
    obtain ⟨k, hk, rfl, rfl, hbox, hbl⟩ := hrel
    have HBOX := Lib.hid hbox
    obtain ⟨S, hS⟩ : ∃ S, sumI (J.take k) = S := ⟨_, rfl⟩
    have hS0 : 0 ≤ S := by rw [← hS]; exact sumI_nonneg fun x hx => HNN.out x (List.mem_of_mem_take hx)
    have hS1 : S ≤ 40100 := by have h1 := sumI_take_le k HNN.out; have h2 := HSUM.out; have h3 := HCB.out; omega
    rw [hS]
    have HSk := Lib.hid hS
    clear hS
    obtain ⟨c0, c1, c2, c3, c4, c5⟩ := hbox
    by_cases hlt : k < jl
    · rcases HJA.out with h | ⟨b, off, rfl, hat⟩
      · have := HJL.out; rw [h] at this; simp at this; omega
      have hcell := (hbl.cell (p := ⟨b, off + k, none⟩) (World.block_lt_of_cell? _ _ (hat k hlt))).trans (hat k hlt)
      have hkl : k < J.length := by rw [HJL.out]; exact hlt
      have hm := getD_map_range J 0 hkl
      have hx0 := HNN.out _ hm
      have hx1 := HX.out _ hm
      have hnext : Hid (sumI (J.take (k + 1)) = S + J.getD k 0) := by show _ = _; rw [sumI_take_succ hkl, HSk.out]
      generalize J.getD k 0 = x at *
      clear hat hm
      have k1 : (k : Int) < (jl : Int) := by omega
      go_wp2
      go_roundw
      case rel => exact ⟨k + 1, by omega, by go_num, by rw [hnext.out]; first | done | go_num, HBOX.out, hbl⟩
      case measure => simp [intOf]; omega
    · obtain rfl : jl = k := by omega
      have hfin : S = cntL ops := by
        have h1 := HSk.out
        rw [List.take_of_length_le (by rw [HJL.out]; exact Nat.le_refl _), HSUM.out] at h1
        exact h1.symm
      obtain ⟨CN, hCN⟩ : ∃ x, cntL ops = x := ⟨_, rfl⟩
      rw [hCN] at hfin
      obtain rfl := hfin.symm
      have HCN := Lib.hid hCN
      have HBW : Hid (Below w.heap.size w wr) := below_then HBL.out hbl
      clear hCN HSk hk hlt hbl
      go_wp2
      go_loopw [6, 8] (fun s i wq => ∃ (k : Nat), k ≤ ol0 ∧ i = .int .i64 k ∧ s = .int .i64 (cntL (ops.take k)) ∧ BoxC wq w.heap.size ⟨name, data, ops, globals, procs, (jl : Int)⟩ da0 oa0 ga0 dl0 dc0 ol0 oc0 gl0 gc0 ∧ Below w.heap.size w wq) (fun _ i _ => ol0 - (intOf i).toNat)
      case atStart => exact ⟨0, Nat.zero_le _, rfl, by simp [cntL], HBOX.out, HBW.out⟩
      case round =>
        clear HBOX HBW c0 c1 c2 c3 c4 c5
        obtain ⟨q, hq, rfl, rfl, hbox, hbl⟩ := hrel
        have HBOX := Lib.hid hbox
        have hwz := hbox.lt
        obtain ⟨c0, c1, c2, c3, c4, c5⟩ := hbox
        obtain ⟨T, hT⟩ : ∃ T, cntL (ops.take q) = T := ⟨_, rfl⟩
        have hT2 : 0 ≤ T ∧ T ≤ 40100 := by
          have h1 := cntL_bd (ops.take q)
          rw [hT] at h1
          have : (ops.take q).length ≤ q := by simp; omega
          omega
        rw [hT]
        have HTk := Lib.hid hT
        clear hT
        by_cases hlt : q < ol0
        · obtain ⟨hx1, b, off, rfl, hat⟩ := HC.out.ops.get hlt
          clear hx1
          have hbw : b < w.heap.size := World.block_lt_of_cell? _ _ hat.1
          obtain ⟨h0, h1, h2⟩ := hat.keep hbl
          have hkl : q < ops.length := by rw [← HO.out]; exact hlt
          have hnext : Hid (cntL (ops.take (q + 1)) = T + (if 0 < OC.label (ops.getD q OC.oz) then 1 else 0)) := by show _ = _; rw [cntL_take_succ hkl, HTk.out]
          generalize ops.getD q OC.oz = x at *
          obtain ⟨G, hG⟩ : ∃ G, OC.label x = G := ⟨_, rfl⟩
          have HLA : Hid (∀ W, Calls Tryd.prog 36 #[opVal x] W fun e w' => e = .returned (.int .i64 G) ∧ Below W.heap.size W w') := fun W => by have h := labelR_c x W; rwa [hG] at h
          rw [hG] at hnext
          obtain ⟨op, n, m⟩ := x
          dsimp only at h0 h1 h2
          clear hG hat
          have k1 : (q : Int) < (ol0 : Int) := by omega
          by_cases hG0 : 0 < G
          · rw [if_pos hG0] at hnext
            go_wp2_with (go_at_call 36; refine (HLA.out _).mono ?_; rintro e w5 ⟨rfl, hb5⟩)
            go_roundw
            case rel => exact ⟨q + 1, by omega, by go_num, by rw [hnext.out]; first | done | go_num, HBOX.out.keep hb5 hwz, below_then hbl hb5⟩
            case measure => simp [intOf]; omega
          · rw [if_neg hG0] at hnext
            have hG1 : decide (0 < G) = false := by simpa using hG0
            go_wp2_with (go_at_call 36; refine (HLA.out _).mono ?_; rintro e w5 ⟨rfl, hb5⟩)
            go_roundw
            case rel => exact ⟨q + 1, by omega, by go_num, by rw [hnext.out]; first | done | go_num, HBOX.out.keep hb5 hwz, below_then hbl hb5⟩
            case measure => simp [intOf]; omega
        · obtain rfl : ol0 = q := by omega
          have hfin : CN = T := by
            have h1 := HTk.out
            rw [List.take_of_length_le (by rw [← HO.out]; exact Nat.le_refl _), HCN.out] at h1
            exact h1
          subst hfin
          clear HTk HCN HSUM
          go_wp2_with (go_at_call 14; refine (awake_c _ (HC.out.inst.keep (by repeat (first | assumption | exact Below.refl _ _ | exact below_alloc _ _ | refine below_back (by assumption) ?_ | refine below_then ?_ (below_alloc _ _) | refine Below.drew ?_ | refine below_drewN ?_ _ | refine below_then ?_ hb9 | refine below_then ?_ hb8 | refine below_then ?_ hb7 | refine below_then ?_ hb6 | refine below_then ?_ hb5 | refine below_then ?_ hb4 | refine below_then ?_ hb3 | refine below_then ?_ hb2 | refine below_then ?_ hb1 | exact HBL.out | exact HBW.out | exact HL.out)) (Nat.le_refl _))).mono ?_; rintro e w6 ⟨rfl, hb6⟩)
          go_ret
          exact ⟨rfl, below_then hbl hb6⟩

theorem contract (H : Type) (enc : TypeId × Value → H) (W : World) (base : Nat) (args : Array Value) (ds gs : List (DataW H)) (before : List MemPlace)
    (hval : ∀ (j : Nat) t v, Tryd.f12.params[j]? = some t → args[j]? = some v → Value.okWide Tryd.prog W .any base t v)
    (hW : DataW.Whole enc Tryd.prog Tryd.f12.params.toList Rows.ocodeSumsSpec.vars false W args.toList ds gs before)
    (hsz : (DataW.weightsEach Tryd.prog (Tryd.f12.params.toList ++ Rows.ocodeSumsSpec.plain.varTypes Tryd.prog) (ds ++ gs)).all (· ≤ reachBytes) = true) (hL : laidMetH Tryd.prog Rows.ocodeSumsRow.laid W) :
    Calls Tryd.prog 12 args W fun e W' => ∃ v, e = .returned v ∧ Rows.ocodeSumsSpec.post enc Tryd.prog Tryd.f12 false true false false W args v W' := by
  have hW' := hW
  obtain ⟨p, q, hA0, hV, rfl, hfz, hnd⟩ := hW
  have hA : DataW.TrodAll enc Tryd.prog W 0 (fun _ => true) true Tryd.f12.params.toList args.toList ds p := hA0
  rw [Tryd.params12] at hA hval hsz
  obtain ⟨v0, vs0, d0, ds0, p0, q0, hargs, rfl, rfl, h0, r0⟩ := trodAll_cons hA
  obtain ⟨rfl, rfl, rfl⟩ := trodAll_nil r0
  obtain rfl : args = #[v0] := by cases args; simp_all
  obtain ⟨rfl, rfl⟩ := trodVars_none hV
  have k0 := h0
  have lt0 : ∀ x ∈ p0, x.block < W.heap.size := by obtain ⟨m, hm⟩ := k0; exact DataW.trod_lt m _ _ _ hm
  obtain ⟨c0, da0, oa0, ga0, dl0, dc0, ol0, oc0, gl0, gc0, rfl, w0, z0⟩ := open_code (hval 0 26 v0 rfl rfl) h0 (fun n hn => by have := List.all_eq_true.1 hsz n (DataW.weights_mem_each (j := 0) rfl rfl n hn); simpa using this)
  clear hA0
  have hi : InstAt W := instAt_of hL
  refine (walk c0 da0 oa0 ga0 dl0 dc0 ol0 oc0 gl0 gc0 W w0 z0 hi).mono fun e W' ⟨he, bel⟩ => ?_
  subst he
  exact ⟨_, rfl, _, _, _, [], _, [], hW', trodAll_mk1 (shut_bool Tryd.underlying4 _), (trodAll_cons_mk (Below.trod laidOut (by kernel_rfl) (of_decide_eq_true (by kernel_rfl)) k0 bel lt0) trodAll_mk0), rfl, bel.frame _, fun h => by cases h⟩

theorem laid_met (os : Os) : laidMet Tryd.prog Rows.ocodeSumsRow.laid ((laidWorld os).forCall (fun _ _ => 0) ⟨#[], #[.agg #[.string ⟨#[]⟩, .slice none 0 0, .slice none 0 0, .slice none 0 0, .int .i64 0, .int .i64 0]], []⟩).memory :=
  laidMet_of_run' 8 (by kernel_rfl) (by kernel_rfl)
set_option maxRecDepth 100000 in
theorem lifted (os : Os) (started : os.Started) (H : Type) (enc : TypeId × Value → H) (F : Stop.Interp) :
    ReturnsInHanded {} Tryd.checked os 12 .any ((OpenSpec.ofChange Rows.ocodeSumsSpec).preRow enc Tryd.prog Tryd.f12 Rows.ocodeSumsRow.domain false Rows.ocodeSumsRow.laid) (((OpenSpec.ofChange Rows.ocodeSumsSpec).at F).post enc Tryd.prog Tryd.f12 false true false false) := by
  refine returnsInHanded_of_row (C := Tryd.checked) (s := OpenSpec.ofChange Rows.ocodeSumsSpec) own started (by kernel_rfl) Tryd.func12
    (witness_row_at (enc := enc) (C := Tryd.checked) false (laidWorld os) #[.agg #[.string ⟨#[]⟩, .slice none 0 0, .slice none 0 0, .slice none 0 0, .int .i64 0, .int .i64 0]] rfl (by kernel_rfl) (by kernel_rfl) (by kernel_rfl)
      (OpenSpec.preRow_of_cond 8 (x := ([.agg [.lit (.string []), .nil, .nil, .nil, .lit (.int .i64 0), .lit (.int .i64 0)]], [], [])) (by kernel_rfl) (by kernel_rfl) (fun k hk => by cases hk) (by kernel_rfl) (laid_met os))) ?_
  intro W base args ds gs before hval hW _ _ hsz hL _ _
  exact contract H enc W base args ds gs before hval hW hsz hL
theorem said : Rows.OcodeSumsSaid :=
  OpenClaim.holds_of_cond 12 Tryd.f12 rfl rfl rfl rfl rfl rfl rfl ⟨rfl, rfl, rfl, rfl, rfl⟩ rfl rfl rfl rfl rfl (by kernel_rfl) Tryd.func12 (by kernel_rfl)
    (of_decide_eq_true (by kernel_rfl)) (by unfold Func.isWrapper; first | (rw [if_pos (by decide +kernel)]; kernel_rfl) | (rw [if_neg (by decide +kernel)]; exact ⟨rfl, rfl⟩))
    (fun os started H enc _ F => by rw [OpenClaim.pre_eq_preRow]; exact lifted os started H enc F)
theorem plain (f : FuncId) (fn : Func) (hf : Tryd.pinned.checked.prog.funcNamed "bluebell/bluebelllaw06.OcodeSums" = some f) (hfn : Tryd.pinned.checked.prog.funcs[f]? = some fn) :
    false = Tryd.pinned.checked.prog.looks [] ∧ ∀ (j : Nat) t, fn.params[j]? = some t → Tryd.pinned.checked.prog.wantsStandIn t = false := by
  obtain rfl : f = 12 := Option.some.inj ((show Tryd.prog.funcNamed "bluebell/bluebelllaw06.OcodeSums" = some 12 by kernel_rfl).symm.trans hf) |>.symm
  obtain rfl : fn = Tryd.f12 := (Option.some.inj (Tryd.func12.symm.trans hfn)).symm
  refine ⟨by kernel_rfl, fun j t ht => ?_⟩
  rw [Tryd.params12] at ht
  have hm := Array.mem_of_getElem? ht
  simp at hm
  subst hm
  exact (show Tryd.prog.wantsStandIn 26 = false by kernel_rfl)
theorem card : Rows.OcodeSumsCardSaid :=
  Claim7.holds_tied_plain_at .later [] _ _ _ _ said (fun _ h => by cases h) (by kernel_rfl) (fun _ h => by cases h) ocodeSums_row_tie rfl ⟨rfl, rfl⟩ (by kernel_rfl) rfl plain (by kernel_rfl)
end Go.Proofs.YthlakfgpmggceaaDoor.ocodeSums
namespace Go.Proofs.YthlakfgpmggceaaDoor
theorem ocodeSums_holds : Rows.OcodeSumsCardSaid := ocodeSums.card
end Go.Proofs.YthlakfgpmggceaaDoor
