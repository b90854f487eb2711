/- The document's answer: all tokens. -/
import Derived.Test.YtpcepfoebkmbgaaLxRefX
import Derived.Test.YtpcepfoebkmbgaaLxTok
namespace Go.Proofs.Ytpcepfoebkmbgaa
open Go.RowKit
set_option linter.unusedVariables false
theorem tok_info : (Try.prog.info? 36).map (fun i => (i.zero, i.size, i.bytes)) = some (some (.agg #[.int .i64 0, .string ⟨#[]⟩, .int .i64 0, .int .i64 0]), 4, 40) := by kernel_rfl
theorem tcells_snoc (ts : List LX.Tok) (t : LX.Tok) : (ts ++ [t]).flatMap tcells = ts.flatMap tcells ++ tcells t := by simp
set_option maxRecDepth 100000 in
set_option maxHeartbeats 2000000 in
theorem refScan_c (s : ByteArray) (w : World) :
    Calls Try.prog 11 #[.string s] w fun e w' => ScanR (LX.scan (bs s)) e w' ∧ Below w.heap.size w w' := by
  by_cases h40 : 40000 < s.size
  · have hr : Hid (LX.scan (bs s) = .bad 2 0) := scan_long h40
    have h40' : (40000 : Int) < (s.size : Int) := by omega
    clear h40
    go_enter Try.func11, Try.ntmps11
    go_wp2
    go_ret3
    exact ⟨.bad hr.out rfl rfl, Below.refl _ _⟩
  have h40' : ¬ (40000 : Int) < (s.size : Int) := by omega
  have hs : s.size ≤ 40000 := by omega
  obtain ⟨ti, hi1, hi2, hi3, hi4⟩ := info_parts tok_info
  have hI : Try.prog.info? 36 = some ti ∧ ti.zero = some (.agg #[.int .i64 0, .string ⟨#[]⟩, .int .i64 0, .int .i64 0]) ∧ ti.size = 4 ∧ ti.bytes = 40 := ⟨hi1, hi2, hi3, hi4⟩
  have HI := Lib.hid hI
  clear hI hi1 hi2 hi3 hi4 h40
  have HB0 := Lib.hid (fun W => behind_c s 0 W (by omega) (Nat.zero_le _))
  go_enter Try.func11, Try.ntmps11
  go_wp2_with (go_at_call 27; refine (HB0.out _).mono ?_; rintro e w' ⟨rfl, rfl⟩)
  go_loopw [5, 6] (fun v i wr => ∃ (q p : Nat) (ts : List LX.Tok), p ≤ s.size ∧ i = .int .i64 p ∧ ts.length ≤ 20000 ∧ Hid (p = q + LX.skipG false (tl s q)) ∧ Hid (ScanAt s q ts) ∧ wr.ownsRow w.heap.size 36 4 v ts.length (ts.flatMap tcells) ∧ Below w.heap.size w wr) (fun _ i _ => s.size - (intOf i).toNat)
  case atStart => exact ⟨0, 0 + LX.skipG false (tl s 0), [], skip_le s 0 false (Nat.zero_le _), by first | rfl | go_num, by simp, (show Hid _ from (rfl : 0 + LX.skipG false (tl s 0) = _)), ScanAt.start s, ⟨by simp, .inl ⟨rfl, rfl⟩⟩, Below.refl _ _⟩
  case round =>
    obtain ⟨q, p, ts, hp, rfl, htl, hpq, hq, hown, hb⟩ := hrel
    obtain ⟨sa, sc, rfl⟩ := owns_form hown
    by_cases hlt : p < s.size
    · cases ht : LX.tok s[p] (tl s (p + 1)) with
      | bad er =>
        have he := tok_bad ht
        have he2 : ((er : Int) == 0) = false := by simp; omega
        have he3 : ((er : Int) != 0) = true := by simp; omega
        have hr : Hid (LX.scan (bs s) = .bad er p) := hq.out.bad hs hpq.out hlt ht htl
        have HC : Hid (∀ W, Calls Try.prog 28 #[.string s, .int .i64 (p : Nat)] W fun e w' => e = .returned (.tuple #[.agg #[.int .i64 0, .string ⟨#[]⟩, .int .i64 0, .int .i64 0], .int .i64 (p : Int), .int .i64 (er : Int)]) ∧ Below W.heap.size W w') := by
          intro W
          refine (refNext_c s p W (by omega) hlt).mono ?_
          rintro e w' ⟨h1, h2⟩
          rw [ht] at h1
          exact ⟨h1, h2⟩
        clear ht he
        go_wp2_with (go_at_call 28; refine (HC.out _).mono ?_; rintro e w1 ⟨rfl, hb1⟩)
        go_ret3
        exact ⟨.bad hr.out rfl rfl, Below.alloc (below_then hb hb1) (by have := hb.size; have := hb1.size; omega) _⟩
      | good kd x n len =>
        have HC : Hid (∀ W, Calls Try.prog 28 #[.string s, .int .i64 (p : Nat)] W fun e w' => e = .returned (.tuple #[.agg #[.int .i64 (kd : Int), .string ⟨x.toArray⟩, .int .i64 n, .int .i64 (p : Int)], .int .i64 ((p + len : Nat) : Int), .int .i64 0]) ∧ Below W.heap.size W w') := by
          intro W
          refine (refNext_c s p W (by omega) hlt).mono ?_
          rintro e w' ⟨h1, h2⟩
          rw [ht] at h1
          exact ⟨h1, h2⟩
        by_cases hfull : ts.length = 20000
        · have hr : Hid (LX.scan (bs s) = .bad 2 p) := hq.out.full hs hpq.out hlt ht hfull
          have g1 : (20000 : Int) ≤ (ts.length : Int) := by omega
          clear ht hfull
          go_wp2_with (go_at_call 28; refine (HC.out _).mono ?_; rintro e w1 ⟨rfl, hb1⟩)
          go_ret3
          exact ⟨.bad hr.out rfl rfl, Below.alloc (below_then hb hb1) (by have := hb.size; have := hb1.size; omega) _⟩
        · have g1 : decide ((20000 : Int) ≤ (ts.length : Int)) = false := by rw [decide_eq_false_iff_not]; omega
          obtain ⟨hm1, hm2, hm3⟩ := hq.out.more hpq.out hlt ht
          have HM : Hid (ScanAt s (p + len) (ts ++ [⟨kd, x, n, p⟩])) := hm1
          have HB := Lib.hid (fun W => behind_c s (p + len) W (by omega) hm2)
          have hfl : ts.length + 1 ≤ 20000 := by omega
          have hsk := skip_le s (p + len) false hm2
          generalize hp2 : p + len = p2 at *
          have HP2 := Lib.hid hp2
          obtain ⟨p3, hp3⟩ : ∃ p3, p3 = p2 + LX.skipG false (tl s p2) := ⟨_, rfl⟩
          rw [← hp3] at HB hsk
          have HP3 := Lib.hid hp3
          have hlt3 : p < p3 := by omega
          clear ht hfull hm1 hp2 hp3
          go_wp2_with (first
            | (go_at_call 28; refine (HC.out _).mono ?_; rintro e w1 ⟨rfl, hb1⟩; have hown1 := owns_below hown hb1; have hbb1 := below_then hb hb1)
            | (go_at_call 27; refine (HB.out _).mono ?_; rintro e w' ⟨rfl, rfl⟩)
            | (at_builtin; (refine wpList_append_row (by rfl) _ _ _ (by rfl) w.heap.size 36 ti _ 4 40 Try.underlying22 HI.out (by decide) rfl (by decide) (.slice sa ts.length sc) ts.length (ts.flatMap tcells) (by rfl) (hown1.alloc _) [.int .i64 (kd : Int), .string ⟨x.toArray⟩, .int .i64 n, .int .i64 (p : Int)] rfl (by simp [Value.oneCell']) (w1.heap.size + 1) (by simp) (by rfl) (by omega) (by have := hbb1.size; simp; omega) ?_); intro v2 w2 hown2 hbel2 hsz2 hcel2 hfz2 hob2))
          go_roundw
          case rel => exact ⟨p2, p3, ts ++ [⟨kd, x, n, p⟩], hsk, rfl, by simp; omega, HP3, HM, by rw [tcells_snoc]; simpa [tcells] using hown2, hbel2 _ _ (hbb1.alloc hbb1.size _) (Nat.le_refl _)⟩
          case measure => simp [intOf]; omega
    · have hpp : p = s.size := by omega
      have HPE : Hid (q + LX.skipG false (tl s q) = s.size) := by show _ = _; rw [← hpq.out, hpp]
      by_cases hfull : ts.length = 20000
      · have hr : Hid (LX.scan (bs s) = .bad 2 s.size) := hq.out.fin_full hs HPE.out hfull
        have g1 : (20000 : Int) ≤ (ts.length : Int) := by omega
        clear hfull hpp
        go_wp2
        go_ret3
        exact ⟨.bad hr.out rfl rfl, hb⟩
      · have hr : Hid (LX.scan (bs s) = .good (ts ++ [⟨0, [], 0, s.size⟩])) := hq.out.fin hs HPE.out (by omega)
        have g1 : decide ((20000 : Int) ≤ (ts.length : Int)) = false := by rw [decide_eq_false_iff_not]; omega
        clear hfull hpp
        go_wp2_with (at_builtin; (refine wpList_append_row (by rfl) _ _ _ (by rfl) w.heap.size 36 ti _ 4 40 Try.underlying22 HI.out (by decide) rfl (by decide) (.slice sa ts.length sc) ts.length (ts.flatMap tcells) (by rfl) hown [.int .i64 0, .string ⟨#[]⟩, .int .i64 0, .int .i64 (s.size : Int)] rfl (by simp [Value.oneCell']) wr.heap.size rfl (by rfl) (by omega) hb.size ?_); intro v2 w2 hown2 hbel2 hsz2 hcel2 hfz2 hob2)
        go_ret3
        exact ⟨.good hr.out (RdT.of_owns (n := ts.length + 1) (by rw [tcells_snoc]; exact hown2) (by simp; omega)), hbel2 _ _ hb (Nat.le_refl _)⟩
end Go.Proofs.Ytpcepfoebkmbgaa
