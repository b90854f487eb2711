/- The card of the statement LexOne holds: the law returns true for all its arguments, and they read behind the call as before; the three tables of the library that the row lists are tied to the program's text. -/
import Derived.Test.YtpcepfoebkmbgaaDoorLaid
import Derived.Test.YtpcepfoebkmbgaaDoorLxOne
import Derived.Test.YtpcepfoebkmbgaaDoorLxQuoP
import Derived.Test.YtpcepfoebkmbgaaDoorLxTxM
namespace Go.Proofs.YtpcepfoebkmbgaaDoor.lexOne
open Go.ChangeShapes Go.WideShapes Go.ChangeAt Go.RowKit Go.Joins 
open Go.ChangeMaps (open_string shut_string)
set_option linter.unusedVariables false
set_option maxHeartbeats 4000000 in
theorem walk (s0 : ByteArray) (a1 : Int) (w : World) (w0 : s0.size ≤ 140737488351232) (w1 : (Lit.int .i64 a1).wf = true) (ht : Tab w) :
    Calls Tryd.prog 6 #[.string s0, .int .i64 a1] w fun e w' => e = .returned (.bool true) ∧ Below w.heap.size w w' := by

  obtain ⟨b0, b1⟩ := wf_i64_bd w1
  have HQ0 := Lib.hid (fun W => Quote_c s0 W w0)
  have HN0 := Lib.hid (fun (W : World) (h : Tab W) => Number_c a1 W b0 b1 h)
  have HT := Lib.hid ht
  unfold NumE at HN0
  clear w0 w1 ht
  have hqc : (LX.quoteR (bs s0) = ([], 3)) ∨ (LX.quoteR (bs s0) = ([], 2)) ∨ (LX.quoteR (bs s0) = (LX.quote (bs s0), 0) ∧ LX.Wr 3 (bs s0) 0 (LX.quote (bs s0)) ∧ (LX.quote (bs s0)).length ≤ 40000) := by
    unfold LX.quoteR
    split
    · exact .inl rfl
    · split
      · exact .inr (.inl rfl)
      · rename_i h1 h2
        have hl := LX.quote_len (bs s0)
        exact .inr (.inr ⟨rfl, LX.wr_quote (by simpa using h1) (by omega), by omega⟩)
  have hnc : (LX.numberR a1 = ([], 1)) ∨ (LX.numberR a1 = (LX.numW a1, 0) ∧ LX.Wr 2 [] a1 (LX.numW a1) ∧ (LX.numW a1).length ≤ 40000) := by
    unfold LX.numberR
    split
    · exact .inl rfl
    · have hl := LX.numW_len (n := a1) (by omega) (by omega)
      exact .inr ⟨rfl, LX.wr_num (by omega) (by omega), by omega⟩
  rcases hqc with hq | hq | ⟨hq, hw, hwl⟩
  · have HQ := HQ0
    rw [hq] at HQ
    clear HQ0 hq
    rcases hnc with hn | ⟨hn, hv, hvl⟩
    · have HN := HN0
      rw [hn] at HN
      clear HN0 hn
      go_enter Tryd.func6, Tryd.ntmps6
      go_wp2_with (first
        | (go_at_call 7; refine (HQ.out _).mono ?_; rintro e W1 ⟨rfl, hb1⟩)
        | (go_at_call 9; refine (HN.out _ (HT.out.keep hb1)).mono ?_; rintro e W3 ⟨rfl, hb3⟩)
        | (go_at_call 11; refine (awake_c _).mono ?_; rintro e W9 ⟨rfl, hb9⟩))
      all_goals first
        | (exfalso; simp_all; done)
        | (go_ret; exact ⟨rfl, below_then hb1 (below_then hb3 hb9)⟩)
    · have HN := HN0
      rw [hn] at HN
      have HSN := Lib.hid (fun W => Scan_one hv hvl 2 rfl ⟨#[]⟩ rfl W)
      obtain ⟨m, hme⟩ : ∃ m, LX.numW a1 = m := ⟨_, rfl⟩
      rw [hme] at HN HSN
      clear hv hvl hme
      clear HN0 hn
      go_enter Tryd.func6, Tryd.ntmps6
      go_wp2_with (first
        | (go_at_call 7; refine (HQ.out _).mono ?_; rintro e W1 ⟨rfl, hb1⟩)
        | (go_at_call 9; refine (HN.out _ (HT.out.keep hb1)).mono ?_; rintro e W3 ⟨rfl, hb3⟩)
        | (go_at_call 14; (with_reducible refine (HSN.out _).mono ?_); rintro e W4 ⟨b4, o4, c4, rfl, y0, y1, y2, y3, hb4⟩)
        | (go_at_call 11; refine (awake_c _).mono ?_; rintro e W9 ⟨rfl, hb9⟩))
      all_goals first
        | (exfalso; simp_all; done)
        | (go_ret; exact ⟨rfl, below_then hb1 (below_then hb3 (below_then hb4 hb9))⟩)
  · have HQ := HQ0
    rw [hq] at HQ
    clear HQ0 hq
    rcases hnc with hn | ⟨hn, hv, hvl⟩
    · have HN := HN0
      rw [hn] at HN
      clear HN0 hn
      go_enter Tryd.func6, Tryd.ntmps6
      go_wp2_with (first
        | (go_at_call 7; refine (HQ.out _).mono ?_; rintro e W1 ⟨rfl, hb1⟩)
        | (go_at_call 9; refine (HN.out _ (HT.out.keep hb1)).mono ?_; rintro e W3 ⟨rfl, hb3⟩)
        | (go_at_call 11; refine (awake_c _).mono ?_; rintro e W9 ⟨rfl, hb9⟩))
      all_goals first
        | (exfalso; simp_all; done)
        | (go_ret; exact ⟨rfl, below_then hb1 (below_then hb3 hb9)⟩)
    · have HN := HN0
      rw [hn] at HN
      have HSN := Lib.hid (fun W => Scan_one hv hvl 2 rfl ⟨#[]⟩ rfl W)
      obtain ⟨m, hme⟩ : ∃ m, LX.numW a1 = m := ⟨_, rfl⟩
      rw [hme] at HN HSN
      clear hv hvl hme
      clear HN0 hn
      go_enter Tryd.func6, Tryd.ntmps6
      go_wp2_with (first
        | (go_at_call 7; refine (HQ.out _).mono ?_; rintro e W1 ⟨rfl, hb1⟩)
        | (go_at_call 9; refine (HN.out _ (HT.out.keep hb1)).mono ?_; rintro e W3 ⟨rfl, hb3⟩)
        | (go_at_call 14; (with_reducible refine (HSN.out _).mono ?_); rintro e W4 ⟨b4, o4, c4, rfl, y0, y1, y2, y3, hb4⟩)
        | (go_at_call 11; refine (awake_c _).mono ?_; rintro e W9 ⟨rfl, hb9⟩))
      all_goals first
        | (exfalso; simp_all; done)
        | (go_ret; exact ⟨rfl, below_then hb1 (below_then hb3 (below_then hb4 hb9))⟩)
  · have HQ := HQ0
    rw [hq] at HQ
    have HSQ := Lib.hid (fun W => Scan_one hw hwl 3 rfl s0 (bs_str s0) W)
    obtain ⟨q, hqe⟩ : ∃ q, LX.quote (bs s0) = q := ⟨_, rfl⟩
    rw [hqe] at HQ HSQ
    clear hw hwl hqe
    clear HQ0 hq
    rcases hnc with hn | ⟨hn, hv, hvl⟩
    · have HN := HN0
      rw [hn] at HN
      clear HN0 hn
      go_enter Tryd.func6, Tryd.ntmps6
      go_wp2_with (first
        | (go_at_call 7; refine (HQ.out _).mono ?_; rintro e W1 ⟨rfl, hb1⟩)
        | (go_at_call 14; (with_reducible refine (HSQ.out _).mono ?_); rintro e W2 ⟨b, o, c, rfl, x0, x1, x2, x3, hb2⟩)
        | (go_at_call 9; refine (HN.out _ ((HT.out.keep hb1).keep hb2)).mono ?_; rintro e W3 ⟨rfl, hb3⟩)
        | (go_at_call 11; refine (awake_c _).mono ?_; rintro e W9 ⟨rfl, hb9⟩))
      all_goals first
        | (exfalso; simp_all; done)
        | (go_ret; exact ⟨rfl, below_then hb1 (below_then hb2 (below_then hb3 hb9))⟩)
    · have HN := HN0
      rw [hn] at HN
      have HSN := Lib.hid (fun W => Scan_one hv hvl 2 rfl ⟨#[]⟩ rfl W)
      obtain ⟨m, hme⟩ : ∃ m, LX.numW a1 = m := ⟨_, rfl⟩
      rw [hme] at HN HSN
      clear hv hvl hme
      clear HN0 hn
      go_enter Tryd.func6, Tryd.ntmps6
      go_wp2_with (first
        | (go_at_call 7; refine (HQ.out _).mono ?_; rintro e W1 ⟨rfl, hb1⟩)
        | (go_at_call 14; (with_reducible refine (HSQ.out _).mono ?_); rintro e W2 ⟨b, o, c, rfl, x0, x1, x2, x3, hb2⟩)
        | (go_at_call 9; refine (HN.out _ ((HT.out.keep hb1).keep hb2)).mono ?_; rintro e W3 ⟨rfl, hb3⟩)
        | (go_at_call 14; (with_reducible refine (HSN.out _).mono ?_); rintro e W4 ⟨b4, o4, c4, rfl, y0, y1, y2, y3, hb4⟩)
        | (go_at_call 11; refine (awake_c _).mono ?_; rintro e W9 ⟨rfl, hb9⟩))
      all_goals first
        | (exfalso; simp_all; done)
        | (go_ret; exact ⟨rfl, below_then hb1 (below_then hb2 (below_then hb3 (below_then hb4 hb9)))⟩)

theorem contract (H : Type) (enc : TypeId × Value → H) (W : World) (base : Nat) (args : Array Value) (ds gs : List (DataW H)) (before : List MemPlace)
    (hval : ∀ (j : Nat) t v, Tryd.f6.params[j]? = some t → args[j]? = some v → Value.okWide Tryd.prog W .any base t v)
    (hW : DataW.Whole enc Tryd.prog Tryd.f6.params.toList Rows.lexOneSpec.vars false W args.toList ds gs before)
    (hsz : (DataW.weightsEach Tryd.prog (Tryd.f6.params.toList ++ Rows.lexOneSpec.plain.varTypes Tryd.prog) (ds ++ gs)).all (· ≤ reachBytes) = true) (hL : laidMetH Tryd.prog Rows.lexOneRow.laid W) :
    Calls Tryd.prog 6 args W fun e W' => ∃ v, e = .returned v ∧ Rows.lexOneSpec.post enc Tryd.prog Tryd.f6 false true false false W args v W' := by
  have hW' := hW
  obtain ⟨p, q, hA0, hV, rfl, hfz, hnd⟩ := hW
  have hA : DataW.TrodAll enc Tryd.prog W 0 (fun _ => true) true Tryd.f6.params.toList args.toList ds p := hA0
  rw [Tryd.params6] at hA hval hsz
  obtain ⟨v0, vs0, d0, ds0, p0, q0, hargs, rfl, rfl, h0, r0⟩ := trodAll_cons hA
  obtain ⟨v1, vs1, d1, ds1, p1, q1, rfl, rfl, rfl, h1, r1⟩ := trodAll_cons r0
  obtain ⟨rfl, rfl, rfl⟩ := trodAll_nil r1
  obtain rfl : args = #[v0, v1] := by cases args; simp_all
  obtain ⟨rfl, rfl⟩ := trodVars_none hV
  have k0 := h0
  have lt0 : ∀ x ∈ p0, x.block < W.heap.size := by obtain ⟨m, hm⟩ := k0; exact DataW.trod_lt m _ _ _ hm
  have k1 := h1
  have lt1 : ∀ x ∈ p1, x.block < W.heap.size := by obtain ⟨m, hm⟩ := k1; exact DataW.trod_lt m _ _ _ hm
  obtain ⟨s0, rfl, rfl, rfl, w0⟩ := open_string Tryd.underlying9 (hval 0 9 v0 rfl rfl) h0
  obtain ⟨a1, rfl, rfl, rfl, w1⟩ := open_int Tryd.underlying3 (hval 1 3 v1 rfl rfl) h1
  have z0 : s0.size ≤ 140737488351232 := by
    have h := sized_string hsz (j := 0) (t := 9) rfl rfl
    have e : s0.data.toList.length = s0.size := by cases s0; simp [ByteArray.size]
    simp only [reachBytes] at h; omega
  clear hA0
  have ht : Tab W := tabs_of hL
  refine (walk s0 a1 W z0 w1 ht).mono fun e W' ⟨he, bel⟩ => ?_
  subst he
  exact ⟨_, rfl, _, _, _, [], _, [], hW', trodAll_mk1 (shut_bool Tryd.underlying4 _), (trodAll_cons_mk (Below.trod laidOut (by kernel_rfl) (of_decide_eq_true (by kernel_rfl)) k0 bel lt0) (trodAll_cons_mk (Below.trod laidOut (by kernel_rfl) (of_decide_eq_true (by kernel_rfl)) k1 bel lt1) trodAll_mk0)), rfl, bel.frame _, fun h => by cases h⟩

theorem laid_met (os : Os) : laidMet Tryd.prog Rows.lexOneRow.laid ((laidWorld os).forCall (fun _ _ => 0) ⟨#[], #[.string ⟨#[]⟩, .int .i64 0], []⟩).memory :=
  laidMet_of_run' 8 (by kernel_rfl) (by kernel_rfl)
set_option maxRecDepth 100000 in
theorem lifted (os : Os) (started : os.Started) (H : Type) (enc : TypeId × Value → H) (F : Stop.Interp) :
    ReturnsInHanded {} Tryd.checked os 6 .any ((OpenSpec.ofChange Rows.lexOneSpec).preRow enc Tryd.prog Tryd.f6 Rows.lexOneRow.domain false Rows.lexOneRow.laid) (((OpenSpec.ofChange Rows.lexOneSpec).at F).post enc Tryd.prog Tryd.f6 false true false false) := by
  refine returnsInHanded_of_row (C := Tryd.checked) (s := OpenSpec.ofChange Rows.lexOneSpec) own started (by kernel_rfl) Tryd.func6
    (witness_row_at (enc := enc) (C := Tryd.checked) false (laidWorld os) #[.string ⟨#[]⟩, .int .i64 0] rfl (by kernel_rfl) (by kernel_rfl) (by kernel_rfl)
      (OpenSpec.preRow_of_cond 8 (x := ([.lit (.string []), .lit (.int .i64 0)], [], [])) (by kernel_rfl) (by kernel_rfl) (fun k hk => by cases hk) (by kernel_rfl) (laid_met os))) ?_
  intro W base args ds gs before hval hW _ _ hsz hL _ _
  exact contract H enc W base args ds gs before hval hW hsz hL
theorem said : Rows.LexOneSaid :=
  OpenClaim.holds_of_cond 6 Tryd.f6 rfl rfl rfl rfl rfl rfl rfl ⟨rfl, rfl, rfl, rfl, rfl⟩ rfl rfl rfl rfl rfl (by kernel_rfl) Tryd.func6 (by kernel_rfl)
    (of_decide_eq_true (by kernel_rfl)) (by unfold Func.isWrapper; first | (rw [if_pos (by decide +kernel)]; kernel_rfl) | (rw [if_neg (by decide +kernel)]; exact ⟨rfl, rfl⟩))
    (fun os started H enc _ F => by rw [OpenClaim.pre_eq_preRow]; exact lifted os started H enc F)
theorem plain (f : FuncId) (fn : Func) (hf : Tryd.pinned.checked.prog.funcNamed "bluebell/bluebelllaw02.LexOne" = some f) (hfn : Tryd.pinned.checked.prog.funcs[f]? = some fn) :
    false = Tryd.pinned.checked.prog.looks [] ∧ ∀ (j : Nat) t, fn.params[j]? = some t → Tryd.pinned.checked.prog.wantsStandIn t = false := by
  obtain rfl : f = 6 := Option.some.inj ((show Tryd.prog.funcNamed "bluebell/bluebelllaw02.LexOne" = some 6 by kernel_rfl).symm.trans hf) |>.symm
  obtain rfl : fn = Tryd.f6 := (Option.some.inj (Tryd.func6.symm.trans hfn)).symm
  refine ⟨by kernel_rfl, fun j t ht => ?_⟩
  rw [Tryd.params6] at ht
  have hm := Array.mem_of_getElem? ht
  simp at hm
  rcases hm with rfl | rfl
  · exact (show Tryd.prog.wantsStandIn 9 = false by kernel_rfl)
  · exact (show Tryd.prog.wantsStandIn 3 = false by kernel_rfl)
theorem card : Rows.LexOneCardSaid :=
  Claim7.holds_tied_plain_at .later [] _ _ _ _ said (fun _ h => by cases h) (by kernel_rfl) (fun _ h => by cases h) lexOne_row_tie rfl ⟨rfl, rfl⟩ (by kernel_rfl) rfl plain (by kernel_rfl)
end Go.Proofs.YtpcepfoebkmbgaaDoor.lexOne
namespace Go.Proofs.YtpcepfoebkmbgaaDoor
theorem lexOne_holds : Rows.LexOneCardSaid := lexOne.card
end Go.Proofs.YtpcepfoebkmbgaaDoor
