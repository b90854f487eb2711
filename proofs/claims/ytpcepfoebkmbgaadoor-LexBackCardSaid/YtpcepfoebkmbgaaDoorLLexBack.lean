/- The card of the statement LexBack holds: the law returns true for all its arguments, and they read behind the call as before; the three tables of the library that the row lists are tied to the program's text. -/
import Derived.Test.YtpcepfoebkmbgaaDoorLaid
import Derived.Test.YtpcepfoebkmbgaaDoorLxBack
import Derived.Test.YtpcepfoebkmbgaaDoorLxRefScan
namespace Go.Proofs.YtpcepfoebkmbgaaDoor.lexBack
open Go.ChangeShapes Go.WideShapes Go.ChangeAt Go.RowKit Go.Joins 
open Go.ChangeMaps (open_string shut_string)
set_option linter.unusedVariables false
set_option maxRecDepth 100000 in
set_option maxHeartbeats 8000000 in
theorem walk (a0 : Option Addr) (len0 cap0 : Nat) (ts0 : List LX.ATok) (w : World) (w0 : IsToks w a0 len0 cap0 ts0) (ht : Tab w) :
    Calls Tryd.prog 5 #[.slice a0 len0 cap0] w fun e w' => e = .returned (.bool true) ∧ Below w.heap.size w w' := by

  obtain ⟨ti, hi1, hi2, hi3, hi4⟩ := info_parts tok_info
  have hI : Tryd.prog.info? 32 = some ti ∧ ti.zero = some (.agg #[.int .i64 0, .string ⟨#[]⟩, .int .i64 0, .int .i64 0]) ∧ ti.size = 4 ∧ ti.bytes = 40 := ⟨hi1, hi2, hi3, hi4⟩
  have HI := Lib.hid hI
  clear hI hi1 hi2 hi3 hi4
  have hll := w0.1
  have hlc := w0.2.1
  have hc63 := w0.2.2.1
  by_cases h20 : 20000 < len0
  · have g1 : (20000 : Int) < (len0 : Int) := by omega
    clear h20 w0 ht
    go_enter Tryd.func5, Tryd.ntmps5
    go_wp2_with (go_at_call 11; refine (awake_c _).mono ?_; rintro e W9 ⟨rfl, hb9⟩)
    all_goals (go_ret; exact ⟨rfl, hb9⟩)
  have g1 : ¬ (20000 : Int) < (len0 : Int) := by omega
  have HTX := Lib.hid (Text_c a0 len0 cap0 ts0 w w0 (by omega) ht)
  have HIT := Lib.hid w0
  unfold TextE at HTX
  clear w0 ht
  cases htx : LX.text false ts0 with
  | none =>
    rw [htx] at HTX
    clear htx
    go_enter Tryd.func5, Tryd.ntmps5
    go_wp2_with (first
      | (go_at_call 12; refine HTX.out.mono ?_; rintro e W1 ⟨rfl, hb1⟩)
      | (go_at_call 11; refine (awake_c _).mono ?_; rintro e W9 ⟨rfl, hb9⟩))
    all_goals (go_ret; exact ⟨rfl, below_then hb1 hb9⟩)
  | some x =>
    rw [htx] at HTX
    have HX := Lib.hid htx
    clear htx
    by_cases h40 : 40000 < x.length
    · have g2 : (40000 : Int) < (x.length : Int) := by omega
      clear h40
      go_enter Tryd.func5, Tryd.ntmps5
      go_wp2_with (first
        | (go_at_call 12; refine HTX.out.mono ?_; rintro e W1 ⟨rfl, hb1⟩)
        | (go_at_call 11; refine (awake_c _).mono ?_; rintro e W9 ⟨rfl, hb9⟩))
      all_goals (go_ret; exact ⟨rfl, below_then hb1 hb9⟩)
    have g2 : ¬ (40000 : Int) < (x.length : Int) := by omega
    have hx40 : x.length ≤ 40000 := by omega
    clear h40
    go_enter Tryd.func5, Tryd.ntmps5
    go_wp2_with (go_at_call 12; refine HTX.out.mono ?_; rintro e W1 ⟨rfl, hb1⟩)
    have HB1 := Lib.hid hb1
    have HIT1 := Lib.hid (HIT.out.keep hb1)
    have hla : len0 = 0 ∨ ∃ lb off, a0 = some ⟨lb, off, none⟩ ∧ ∀ i, i < len0 → TokCells W1 lb (off + i * 4) (ts0.getD i az) := by
      rcases HIT1.out.2.2.2.2 with h | h
      · exact .inl (by omega)
      · exact .inr h
    have HLA := Lib.hid hla
    clear hb1 hla
    go_loop [5] (fun i => ∃ k : Nat, k ≤ len0 ∧ i = .int .i64 k ∧ Hid (LX.CountAt ts0 k)) (fun i => len0 - (intOf i).toNat)
    case atStart => exact ⟨0, Nat.zero_le _, rfl, LX.CountAt.start ts0⟩
    case round =>
      obtain ⟨k, hk, rfl, hq⟩ := hrel
      have k0 : (0 : Int) ≤ (k : Int) := by omega
      have hcase : (∃ (hlt : k < len0) (h0 : (ts0.getD k az).kind ≠ 0), True) ∨ (LX.count ts0 = k ∧ ((∃ hlt : k < len0, (ts0.getD k az).kind = 0) ∨ k = len0)) := by
        by_cases hlt : k < len0
        · by_cases h0 : (ts0.getD k az).kind = 0
          · exact .inr ⟨hq.out.stop (by omega) h0, .inl ⟨hlt, h0⟩⟩
          · exact .inl ⟨hlt, h0, trivial⟩
        · exact .inr ⟨hq.out.ends (by omega), .inr (by omega)⟩
      rcases hcase with ⟨hlt, h0, _⟩ | ⟨hcnt, hcase⟩
      · obtain ⟨lb, off, rfl, hc⟩ := HLA.out.resolve_left (by omega)
        have hq2 : Hid (LX.CountAt ts0 (k + 1)) := hq.out.more (by omega) h0
        obtain ⟨x0, _, _, _⟩ := hc k hlt
        have f0 : ((ts0.getD k az).kind != 0) = true := by simpa using h0
        have g3 : decide ((k : Int) < (len0 : Int)) = true := by rw [decide_eq_true_iff]; omega
        obtain ⟨kd, hkd⟩ : ∃ kd, (ts0.getD k az).kind = kd := ⟨_, rfl⟩
        rw [hkd] at x0 f0
        clear hc h0 hkd
        go_wp2
        go_round
        case rel => exact ⟨k + 1, by omega, by go_num, hq2⟩
        case measure => simp [intOf]; omega
      have HCN := Lib.hid hcnt
      have hk1 : (k : Int) ≤ (cap0 : Int) := by omega
      have hexit : (∃ lb off, a0 = some ⟨lb, off, none⟩ ∧ W1.cell? ⟨lb, off + k * 4, none⟩ = some (.int .i64 0) ∧ decide ((k : Int) < (len0 : Int)) = true) ∨ decide ((k : Int) < (len0 : Int)) = false := by
        rcases hcase with ⟨hlt, h0⟩ | rfl
        · obtain ⟨lb, off, ha, hc⟩ := HLA.out.resolve_left (by omega)
          have := (hc k hlt).1
          rw [h0] at this
          exact .inl ⟨lb, off, ha, this, by rw [decide_eq_true_iff]; omega⟩
        · exact .inr (by simp)
      clear hcase hcnt hq
      by_cases h2 : 20000 ≤ k
      · have g4 : (20000 : Int) ≤ (k : Int) := by omega
        clear h2
        rcases hexit with ⟨lb, off, rfl, x0, g3⟩ | g3
        · go_wp2_with (go_at_call 11; refine (awake_c _).mono ?_; rintro e W9 ⟨rfl, hb9⟩)
          all_goals (go_ret; exact ⟨rfl, below_then HB1.out hb9⟩)
        · go_wp2_with (go_at_call 11; refine (awake_c _).mono ?_; rintro e W9 ⟨rfl, hb9⟩)
          all_goals (go_ret; exact ⟨rfl, below_then HB1.out hb9⟩)
      have g4 : ¬ (20000 : Int) ≤ (k : Int) := by omega
      have HSC := Lib.hid (fun W => Scan_back HX.out hx40 HCN.out (by omega) W)
      have HTL : Hid (k ≤ ts0.length) := by show k ≤ _; omega
      have HK2 : Hid (k < 20000) := by show k < _; omega
      clear h2
      by_cases hcap : cap0 = 0
      · subst hcap
        obtain rfl : k = 0 := by omega
        have g3 : decide (((0 : Nat) : Int) < (len0 : Int)) = false := by rw [decide_eq_false_iff_not]; omega
        clear hexit
        have tok0 : True := trivial
        go_wp2_with (first
          | (go_at_call 14; refine (HSC.out _).mono ?_; rintro e W2 ⟨b1, o1, c1, rfl, hrd, hb2⟩; have HRD := Lib.hid hrd; clear hrd)
          | (at_builtin; have _t := tok0; refine wpList_unguard (by kernel_rfl) ?_; refine wpList_append_none (by rfl) _ _ _ (by rfl) 32 ti Tryd.underlying28 HI.out.1 (by rfl) a0 0 (by rfl) ?_; clear tok0 _t; have tok1 : True := trivial; have hb4 := Below.refl W2.heap.size W2; have hown4 : W2.ownsRow W2.heap.size 32 4 (.slice none 0 0) 0 ((ts0.take 0).flatMap acells) := World.ownsRow_nil W2 _ _ _)
          | (at_builtin; have _t := tok1; refine wpList_unguard (by kernel_rfl) ?_; refine wpList_append_row (by rfl) _ _ _ (by rfl) W2.heap.size 32 ti _ 4 40 Tryd.underlying28 HI.out (by decide) rfl (by decide) (.slice none 0 0) 0 ((ts0.take 0).flatMap acells) (by rfl) hown4 [.int .i64 0, .string ⟨#[]⟩, .int .i64 0, .int .i64 0] rfl (by simp [Value.oneCell']) W2.heap.size rfl (by rfl) (by have := HK2.out; omega) (by have := hb4.size; omega) ?_; intro v5 W5 hown5 hbel5 hsz5 hcel5 hfz5 hob5; clear tok1 _t; have hb5 := hbel5 _ _ (Below.refl W2.heap.size W2 |>.trans hb4) (Nat.le_refl _); obtain ⟨g6, c6, rfl, hal⟩ := alike_back (c1 := c1) HRD.out hb5 hown5 HTL.out HK2.out; have HAL := Lib.hid hal; clear hal)
          | (go_at_call 15; (with_reducible refine HAL.out.mono ?_); rintro e W6 ⟨rfl, hb6⟩)
          | (go_at_call 11; refine (awake_c _).mono ?_; rintro e W9 ⟨rfl, hb9⟩))
        all_goals (go_ret; exact ⟨rfl, below_then HB1.out (below_then hb2 (below_then (hb5.mono (Nat.le_refl _)) (below_then hb6 hb9)))⟩)
      · obtain ⟨lb, off, rfl, hcl⟩ := HIT1.out.2.2.2.2.resolve_left hcap
        have g5 : ¬ ((cap0 : Int) = 0) := by omega
        have tok0 : True := trivial
        rcases hexit with ⟨lb', off', hab, x0, g3⟩ | g3
        · injection hab with hab
          injection hab with e1 e2
          subst e1 e2
          go_wp2_with (first
            | (go_at_call 14; refine (HSC.out _).mono ?_; rintro e W2 ⟨b1, o1, c1, rfl, hrd, hb2⟩; have HRD := Lib.hid hrd; clear hrd; have HCL := Lib.hid (fun i (hi : i < ts0.length) => (hcl i (by omega)).keep hb2))
            | (at_builtin; have _t := tok0; refine wpList_unguard (by kernel_rfl) ?_; refine wpList_append_fresh (by rfl) _ _ _ (by rfl) 32 ti _ 4 40 Tryd.underlying28 HI.out (by decide) rfl (by decide) (by rfl) lb off k cap0 (by rfl) ((ts0.take k).flatMap acells) (by rw [acells_len, List.length_take]; have := HTL.out; omega) (ra_cells HCL.out k (by have := HTL.out; omega)) (acells_one _) (by have := HK2.out; omega) ?_; intro v4 W4 hown4 hb4; clear tok0 _t; have tok1 : True := trivial)
            | (at_builtin; have _t := tok1; refine wpList_unguard (by kernel_rfl) ?_; refine wpList_append_row (by rfl) _ _ _ (by rfl) W2.heap.size 32 ti _ 4 40 Tryd.underlying28 HI.out (by decide) rfl (by decide) v4 k ((ts0.take k).flatMap acells) (by rfl) hown4 [.int .i64 0, .string ⟨#[]⟩, .int .i64 0, .int .i64 0] rfl (by simp [Value.oneCell']) W4.heap.size rfl (by rfl) (by have := HK2.out; omega) (by have := hb4.size; omega) ?_; intro v5 W5 hown5 hbel5 hsz5 hcel5 hfz5 hob5; clear tok1 _t; have hb5 := hbel5 _ _ (Below.refl W2.heap.size W2 |>.trans hb4) (Nat.le_refl _); obtain ⟨g6, c6, rfl, hal⟩ := alike_back (c1 := c1) HRD.out hb5 hown5 HTL.out HK2.out; have HAL := Lib.hid hal; clear hal)
            | (go_at_call 15; (with_reducible refine HAL.out.mono ?_); rintro e W6 ⟨rfl, hb6⟩)
            | (go_at_call 11; refine (awake_c _).mono ?_; rintro e W9 ⟨rfl, hb9⟩))
          all_goals (go_ret; exact ⟨rfl, below_then HB1.out (below_then hb2 (below_then (hb5.mono (Nat.le_refl _)) (below_then hb6 hb9)))⟩)
        · have g3n : decide (k < len0) = false := by rw [decide_eq_false_iff_not] at g3 ⊢; omega
          go_wp2_with (first
            | (go_at_call 14; refine (HSC.out _).mono ?_; rintro e W2 ⟨b1, o1, c1, rfl, hrd, hb2⟩; have HRD := Lib.hid hrd; clear hrd; have HCL := Lib.hid (fun i (hi : i < ts0.length) => (hcl i (by omega)).keep hb2))
            | (at_builtin; have _t := tok0; refine wpList_unguard (by kernel_rfl) ?_; refine wpList_append_fresh (by rfl) _ _ _ (by rfl) 32 ti _ 4 40 Tryd.underlying28 HI.out (by decide) rfl (by decide) (by rfl) lb off k cap0 (by rfl) ((ts0.take k).flatMap acells) (by rw [acells_len, List.length_take]; have := HTL.out; omega) (ra_cells HCL.out k (by have := HTL.out; omega)) (acells_one _) (by have := HK2.out; omega) ?_; intro v4 W4 hown4 hb4; clear tok0 _t; have tok1 : True := trivial)
            | (at_builtin; have _t := tok1; refine wpList_unguard (by kernel_rfl) ?_; refine wpList_append_row (by rfl) _ _ _ (by rfl) W2.heap.size 32 ti _ 4 40 Tryd.underlying28 HI.out (by decide) rfl (by decide) v4 k ((ts0.take k).flatMap acells) (by rfl) hown4 [.int .i64 0, .string ⟨#[]⟩, .int .i64 0, .int .i64 0] rfl (by simp [Value.oneCell']) W4.heap.size rfl (by rfl) (by have := HK2.out; omega) (by have := hb4.size; omega) ?_; intro v5 W5 hown5 hbel5 hsz5 hcel5 hfz5 hob5; clear tok1 _t; have hb5 := hbel5 _ _ (Below.refl W2.heap.size W2 |>.trans hb4) (Nat.le_refl _); obtain ⟨g6, c6, rfl, hal⟩ := alike_back (c1 := c1) HRD.out hb5 hown5 HTL.out HK2.out; have HAL := Lib.hid hal; clear hal)
            | (go_at_call 15; (with_reducible refine HAL.out.mono ?_); rintro e W6 ⟨rfl, hb6⟩)
            | (go_at_call 11; refine (awake_c _).mono ?_; rintro e W9 ⟨rfl, hb9⟩))
          all_goals (go_ret; exact ⟨rfl, below_then HB1.out (below_then hb2 (below_then (hb5.mono (Nat.le_refl _)) (below_then hb6 hb9)))⟩)

theorem contract (H : Type) (enc : TypeId × Value → H) (W : World) (base : Nat) (args : Array Value) (ds gs : List (DataW H)) (before : List MemPlace)
    (hval : ∀ (j : Nat) t v, Tryd.f5.params[j]? = some t → args[j]? = some v → Value.okWide Tryd.prog W .any base t v)
    (hW : DataW.Whole enc Tryd.prog Tryd.f5.params.toList Rows.lexBackSpec.vars false W args.toList ds gs before)
    (hsz : (DataW.weightsEach Tryd.prog (Tryd.f5.params.toList ++ Rows.lexBackSpec.plain.varTypes Tryd.prog) (ds ++ gs)).all (· ≤ reachBytes) = true) (hL : laidMetH Tryd.prog Rows.lexBackRow.laid W) :
    Calls Tryd.prog 5 args W fun e W' => ∃ v, e = .returned v ∧ Rows.lexBackSpec.post enc Tryd.prog Tryd.f5 false true false false W args v W' := by
  have hW' := hW
  obtain ⟨p, q, hA0, hV, rfl, hfz, hnd⟩ := hW
  have hA : DataW.TrodAll enc Tryd.prog W 0 (fun _ => true) true Tryd.f5.params.toList args.toList ds p := hA0
  rw [Tryd.params5] at hA hval hsz
  obtain ⟨v0, vs0, d0, ds0, p0, q0, hargs, rfl, rfl, h0, r0⟩ := trodAll_cons hA
  obtain ⟨rfl, rfl, rfl⟩ := trodAll_nil r0
  obtain rfl : args = #[v0] := by cases args; simp_all
  obtain ⟨rfl, rfl⟩ := trodVars_none hV
  have k0 := h0
  have lt0 : ∀ x ∈ p0, x.block < W.heap.size := by obtain ⟨m, hm⟩ := k0; exact DataW.trod_lt m _ _ _ hm
  obtain ⟨a0, len0, cap0, rfl⟩ := okWide_slice Tryd.underlying28 (hval 0 28 v0 rfl rfl)
  obtain ⟨ts0, w0⟩ : ∃ ts, IsToks W a0 len0 cap0 ts := isToks_of_trod h0 (fun n hn => by have := List.all_eq_true.1 hsz n (DataW.weights_mem_each (j := 0) rfl rfl n hn); simpa using this)
  clear hA0
  have ht : Tab W := tabs_of hL
  refine (walk a0 len0 cap0 ts0 W w0 ht).mono fun e W' ⟨he, bel⟩ => ?_
  subst he
  exact ⟨_, rfl, _, _, _, [], _, [], hW', trodAll_mk1 (shut_bool Tryd.underlying4 _), (trodAll_cons_mk (Below.trod laidOut (by kernel_rfl) (of_decide_eq_true (by kernel_rfl)) k0 bel lt0) trodAll_mk0), rfl, bel.frame _, fun h => by cases h⟩

theorem laid_met (os : Os) : laidMet Tryd.prog Rows.lexBackRow.laid ((laidWorld os).forCall (fun _ _ => 0) ⟨#[], #[.slice none 0 0], []⟩).memory :=
  laidMet_of_run' 8 (by kernel_rfl) (by kernel_rfl)
set_option maxRecDepth 100000 in
theorem lifted (os : Os) (started : os.Started) (H : Type) (enc : TypeId × Value → H) (F : Stop.Interp) :
    ReturnsInHanded {} Tryd.checked os 5 .any ((OpenSpec.ofChange Rows.lexBackSpec).preRow enc Tryd.prog Tryd.f5 Rows.lexBackRow.domain false Rows.lexBackRow.laid) (((OpenSpec.ofChange Rows.lexBackSpec).at F).post enc Tryd.prog Tryd.f5 false true false false) := by
  refine returnsInHanded_of_row (C := Tryd.checked) (s := OpenSpec.ofChange Rows.lexBackSpec) own started (by kernel_rfl) Tryd.func5
    (witness_row_at (enc := enc) (C := Tryd.checked) false (laidWorld os) #[.slice none 0 0] rfl (by kernel_rfl) (by kernel_rfl) (by kernel_rfl)
      (OpenSpec.preRow_of_cond 8 (x := ([.nil], [], [])) (by kernel_rfl) (by kernel_rfl) (fun k hk => by cases hk) (by kernel_rfl) (laid_met os))) ?_
  intro W base args ds gs before hval hW _ _ hsz hL _ _
  exact contract H enc W base args ds gs before hval hW hsz hL
theorem said : Rows.LexBackSaid :=
  OpenClaim.holds_of_cond 5 Tryd.f5 rfl rfl rfl rfl rfl rfl rfl ⟨rfl, rfl, rfl, rfl, rfl⟩ rfl rfl rfl rfl rfl (by kernel_rfl) Tryd.func5 (by kernel_rfl)
    (of_decide_eq_true (by kernel_rfl)) (by unfold Func.isWrapper; first | (rw [if_pos (by decide +kernel)]; kernel_rfl) | (rw [if_neg (by decide +kernel)]; exact ⟨rfl, rfl⟩))
    (fun os started H enc _ F => by rw [OpenClaim.pre_eq_preRow]; exact lifted os started H enc F)
theorem plain (f : FuncId) (fn : Func) (hf : Tryd.pinned.checked.prog.funcNamed "bluebell/bluebelllaw02.LexBack" = some f) (hfn : Tryd.pinned.checked.prog.funcs[f]? = some fn) :
    false = Tryd.pinned.checked.prog.looks [] ∧ ∀ (j : Nat) t, fn.params[j]? = some t → Tryd.pinned.checked.prog.wantsStandIn t = false := by
  obtain rfl : f = 5 := Option.some.inj ((show Tryd.prog.funcNamed "bluebell/bluebelllaw02.LexBack" = some 5 by kernel_rfl).symm.trans hf) |>.symm
  obtain rfl : fn = Tryd.f5 := (Option.some.inj (Tryd.func5.symm.trans hfn)).symm
  refine ⟨by kernel_rfl, fun j t ht => ?_⟩
  rw [Tryd.params5] at ht
  have hm := Array.mem_of_getElem? ht
  simp at hm
  subst hm
  exact (show Tryd.prog.wantsStandIn 28 = false by kernel_rfl)
theorem card : Rows.LexBackCardSaid :=
  Claim7.holds_tied_plain_at .later [] _ _ _ _ said (fun _ h => by cases h) (by kernel_rfl) (fun _ h => by cases h) lexBack_row_tie rfl ⟨rfl, rfl⟩ (by kernel_rfl) rfl plain (by kernel_rfl)
end Go.Proofs.YtpcepfoebkmbgaaDoor.lexBack
namespace Go.Proofs.YtpcepfoebkmbgaaDoor
theorem lexBack_holds : Rows.LexBackCardSaid := lexBack.card
end Go.Proofs.YtpcepfoebkmbgaaDoor
