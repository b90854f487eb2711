/- The law LexTwo: both scans go well -/
import Derived.Test.YtpcepfoebkmbgaaLxTwo
import Derived.Test.YtpcepfoebkmbgaaLxTwA
namespace Go.Proofs.Ytpcepfoebkmbgaa
open Go.RowKit
set_option linter.unusedVariables false
theorem rd_keep {w w' : World} {b off : Nat} {ts : List LX.Tok} (hc : ∀ i, i < ts.length →
    w.cell? ⟨b, off + i * 4, none⟩ = some (.int .i64 ((ts.getD i tz).kind : Int)) ∧ w.cell? ⟨b, off + i * 4 + 1, none⟩ = some (.string ⟨(ts.getD i tz).s.toArray⟩) ∧
    w.cell? ⟨b, off + i * 4 + 2, none⟩ = some (.int .i64 (ts.getD i tz).n) ∧ w.cell? ⟨b, off + i * 4 + 3, none⟩ = some (.int .i64 ((ts.getD i tz).pos : Int))) (hb : Below w.heap.size w w') : ∀ i, i < ts.length →
    w'.cell? ⟨b, off + i * 4, none⟩ = some (.int .i64 ((ts.getD i tz).kind : Int)) ∧ w'.cell? ⟨b, off + i * 4 + 1, none⟩ = some (.string ⟨(ts.getD i tz).s.toArray⟩) ∧
    w'.cell? ⟨b, off + i * 4 + 2, none⟩ = some (.int .i64 (ts.getD i tz).n) ∧ w'.cell? ⟨b, off + i * 4 + 3, none⟩ = some (.int .i64 ((ts.getD i tz).pos : Int)) := fun i hi => by
  obtain ⟨f0, f1, f2, f3⟩ := hc i hi
  refine ⟨(hb.cell (p := ⟨b, off + i * 4, none⟩) (World.block_lt_of_cell? w _ f0)).trans f0, (hb.cell (p := ⟨b, off + i * 4 + 1, none⟩) (World.block_lt_of_cell? w _ f1)).trans f1, (hb.cell (p := ⟨b, off + i * 4 + 2, none⟩) (World.block_lt_of_cell? w _ f2)).trans f2, (hb.cell (p := ⟨b, off + i * 4 + 3, none⟩) (World.block_lt_of_cell? w _ f3)).trans f3⟩
theorem takes (ts us : List LX.Tok) (d k : Nat) (hk : k < us.length) : ts ++ (us.take (k + 1)).map (LX.mv d) = (ts ++ (us.take k).map (LX.mv d)) ++ [LX.mv d (us.getD k tz)] := by
  rw [List.take_add_one, List.map_append, List.getElem?_eq_getElem hk, List.append_assoc]
  simp [List.getD_eq_getElem?_getD, List.getElem?_eq_getElem hk]
set_option maxHeartbeats 4000000 in
theorem two_e (s0 s1 : ByteArray) (w : World) (hs : s0.size + s1.size < 40000) (ua ub ts : List LX.Tok) (m : Nat) (hr : LX.scan (bs s0) = .good ua) (hua : ua.take m = ts) (hml : m + 1 = ua.length) (hm2 : m < 20000) (hbig : ¬ 20000 < ua.length + s1.size + 1) (hrb : LX.scan (bs s1) = .good ub) (hubl : ub.length ≤ 20000) (hub0 : 0 < ub.length) (hubp : ∀ i, i < ub.length → (ub.getD i tz).pos ≤ s1.size) (hc : LX.scan (bs (s0 ++ ⟨#[10]⟩ ++ s1)) = .good (ts ++ ub.map (LX.mv (s0.size + 1)))) :
    Calls Try.prog 6 #[.string s0, .string s1] w fun e w' => e = .returned (.bool true) ∧ Below w.heap.size w w' := by
  have hsum : (s0.size : Int) + (s1.size : Int) ≤ 281474976702464 := by omega
  have g1 : decide ((40000 : Int) ≤ (s0.size : Int) + (s1.size : Int)) = false := by rw [decide_eq_false_iff_not]; omega
  have HC1 := Lib.hid (fun W => Scan_goodC hr W)
  have HC2 := Lib.hid (fun W => Scan_good hrb W)
  have HC3 := Lib.hid (fun W => Scan_good hc W)
  have hm1 : (ua.length : Int) - 1 = (m : Int) := by omega
  have hz : ((ua.length : Int) == 0) = false := (ne0 _ (by omega)).1
  have m0 : (0 : Int) ≤ (m : Int) := by omega
  have HN1 : Hid (0 < ua.length) := (by omega : 0 < ua.length)
  have HN2 : Hid (0 < ub.length) := hub0
  have HML : Hid (m < 20000) := hm2
  have HUL : Hid (ub.length ≤ 20000) := hubl
  have HL := Lib.hid hml
  have HT := Lib.hid hua
  have HP := Lib.hid hubp
  have HS : Hid (s0.size + s1.size < 40000) := hs
  have n1 : ua.length ≤ 1000001 := by omega
  have n2 : ub.length ≤ 1000001 := by omega
  have n3 : m ≤ 1000001 := by omega
  have g2 := small_dec _ _ hbig
  obtain ⟨ti, hi1, hi2, hi3, hi4⟩ := info_parts tok_info
  have hI : Try.prog.info? 36 = some ti ∧ ti.zero = some (.agg #[.int .i64 0, .string ⟨#[]⟩, .int .i64 0, .int .i64 0]) ∧ ti.size = 4 ∧ ti.bytes = 40 := ⟨hi1, hi2, hi3, hi4⟩
  have HI := Lib.hid hI
  clear hr hrb hc hs hbig hm2 hubl hub0 hubp hi1 hi2 hi3 hi4 hI hml hua
  go_enter Try.func6, Try.ntmps6
  go_wp2_with (first
    | (at_builtin; have _t := tok3; clear tok3; refine wpList_append_fresh (by rfl) _ _ _ (by rfl) 36 ti _ 4 40 Try.underlying22 HI.out (by decide) rfl (by decide) (by rfl) b1 o1 m cap1 (by rfl) ((ua.take m).flatMap tcells) (by rw [tcells_len, List.length_take]; have := HL.out; omega) (rd_cells HD1b.out m (by have := HL.out; omega)) (tcells_one _) (by have := HML.out; omega) ?_; intro v4 W4 hown4 hb4)
    | (go_at_call 10; have _t := tok2; clear tok2; refine (HC3.out _).mono ?_; rintro e W3 ⟨v3, rfl, hr3, hb3⟩; clear HC3; have tok3 : True := trivial; have HR3 := Lib.hid hr3; have HD1b := Lib.hid (rd_keep HD1.out (below_then hb2 hb3)); have HD2b := Lib.hid (rd_keep HD2.out hb3); clear hr3)
    | (go_at_call 10; have _t := tok1; clear tok1; refine (HC2.out _).mono ?_; rintro e W2 ⟨v2, rfl, hr2, hb2⟩; clear HC2; have tok2 : True := trivial; obtain ⟨b2, o2, cap2, rfl, hc2⟩ := hr2.open HN2.out; have HD2 := Lib.hid hc2; clear hr2 hc2)
    | (go_at_call 10; refine (HC1.out _).mono ?_; rintro e W1 ⟨v1, rfl, hr1, hcp1, hb1⟩; clear HC1; have tok1 : True := trivial; obtain ⟨b1, o1, cap1, rfl, hc1⟩ := hr1.open HN1.out; have hcap1 : (m : Int) ≤ (cap1 : Int) := (by have h1 := hcp1 _ _ _ rfl; have h2 := HL.out; omega); have HD1 := Lib.hid hc1; clear hr1 hcp1 hc1))
  go_loopw [14, 15] (fun v i wr => ∃ (k : Nat) (acc : List LX.Tok), k ≤ ub.length ∧ i = .int .i64 k ∧ Hid (acc = ts ++ (ub.take k).map (LX.mv (s0.size + 1))) ∧ Hid (acc.length = m + k) ∧ wr.ownsRow W3.heap.size 36 4 v acc.length (acc.flatMap tcells) ∧ Below W3.heap.size W3 wr) (fun _ i _ => ub.length - (intOf i).toNat)
  case atStart => exact ⟨0, ts, Nat.zero_le _, rfl, (show _ = _ by simp), (show _ = _ by have h1 := HL.out; rw [← HT.out, List.length_take]; omega), (by have h1 := HL.out; have h2 : ts.length = m := (by rw [← HT.out, List.length_take]; omega); rw [h2]; rw [HT.out] at hown4; exact hown4), hb4⟩
  case round =>
    obtain ⟨k, acc, hk, rfl, hacc, hal, hown, hbl⟩ := hrel
    obtain ⟨sa, sc, rfl⟩ := owns_form hown
    by_cases hlt : k < ub.length
    · obtain ⟨f0, f1, f2, f3⟩ := rd_keep HD2b.out hbl k hlt
      have hps := HP.out k hlt
      have hss := HS.out
      have hul := HUL.out
      have hmu := HML.out
      have hal' := hal.out
      have k0 : (0 : Int) ≤ (k : Int) := by omega
      have k1 : (k : Int) < (ub.length : Int) := by omega
      have HT2 := Lib.hid (takes ts ub (s0.size + 1) k hlt)
      have hal3 : acc.length ≤ 40000 := by omega
      clear hss hul hmu hal' hlt
      generalize ub.getD k tz = t at *
      have HAL := Lib.hid hal3
      clear hal3
      go_wp2_with (at_builtin; (refine wpList_append_row (by rfl) _ _ _ (by rfl) W3.heap.size 36 ti _ 4 40 Try.underlying22 HI.out (by decide) rfl (by decide) (.slice sa acc.length sc) acc.length (acc.flatMap tcells) (by rfl) (hown.alloc _) [.int .i64 (t.kind : Int), .string ⟨t.s.toArray⟩, .int .i64 t.n, .int .i64 ((t.pos : Int) + ((s0.size : Int) + 1))] rfl (by simp [Value.oneCell']) (wr.heap.size + 1) (by simp) (by rfl) (by have := HAL.out; omega) (by have := hbl.size; simp; omega) ?_; intro v5 w5 hown5 hbel5 hsz5 hcel5 hfz5 hob5))
      go_roundw
      case rel => exact ⟨k + 1, acc ++ [LX.mv (s0.size + 1) t], by omega, by go_num, (show _ = _ by rw [HT2.out, hacc.out]), (show _ = _ by have h1 := hal.out; simp; omega), (by rw [tcells_snoc, List.length_append]; simpa [tcells, LX.mv, Int.add_assoc] using hown5), hbel5 _ _ (hbl.alloc hbl.size _) (Nat.le_refl _)⟩
      case measure => simp [intOf]; omega
    · obtain rfl : k = ub.length := by omega
      go_wp2_with (first
        | (go_at_call 12; refine (eqTokens_c _ _ (ts ++ ub.map (LX.mv (s0.size + 1))) _ (HR3.out.keep hbl) (RdT.of_owns (n := acc.length) (by rw [hacc.out, List.take_length] at hown ⊢; exact hown) (by have h1 := hal.out; have h2 := HML.out; have h3 := HUL.out; rw [hacc.out, List.take_length] at h1; omega))).mono ?_; rintro e W6 ⟨rfl, hb6⟩)
        | (go_at_call 13; refine (awake_c _).mono ?_; rintro e W9 ⟨rfl, hb9⟩))
      go_ret
      exact ⟨rfl, below_then hb1 (below_then hb2 (below_then hb3 (below_then hbl (below_then hb6 hb9))))⟩
end Go.Proofs.Ytpcepfoebkmbgaa
