/- The program's scan. -/
import Derived.Test.YtpcepfoebkmbgaaDoorLxTells
import Derived.OwnWalk
namespace Go.Proofs.YtpcepfoebkmbgaaDoor
open Go.RowKit
set_option linter.unusedVariables false
theorem Keys.drewN {w : World} {b : Nat} (h : Keys w b) (n : Nat) : Keys (w.drewN n) b := h
theorem Sgs.drewN {w : World} {sb so : Nat} (h : Sgs w sb so) (n : Nat) : Sgs (w.drewN n) sb so := h
theorem tok_kind {c : UInt8} {r : LX.Bs} {k : Nat} {x : LX.Bs} {n : Int} {len : Nat} (h : LX.tok c r = .good k x n len) : 1 ≤ k := by
  have hnum : ∀ b m pre l, LX.numR b m pre l = .good k x n len → 1 ≤ k := by
    intro b m pre l h
    unfold LX.numR at h
    split at h
    · cases h
    · injection h with h; omega
  unfold LX.tok at h
  split at h
  · unfold LX.wordR at h
    split at h
    · cases h
    · split at h <;> (injection h with h; omega)
  · split at h
    · exact hnum _ _ _ _ h
    · split at h
      · unfold LX.hexR at h
        split at h
        · cases h
        · split at h
          · exact hnum _ _ _ _ h
          · cases h
      · split at h
        · unfold LX.charR at h
          split at h
          · cases h
          · split at h
            · injection h with h; omega
            · cases h
        · split at h
          · unfold LX.textR at h
            split at h
            · cases h
            · split at h
              · cases h
              · injection h with h; omega
          · unfold LX.signR at h
            split at h
            · injection h with h; omega
            · split at h
              · injection h with h; omega
              · cases h
set_option maxRecDepth 100000 in
set_option maxHeartbeats 4000000 in
theorem Scan_c (s : ByteArray) (w : World) :
    Calls Tryd.prog 14 #[.string s] w fun e w' => ScanR (LX.scan (bs s)) e w' ∧ Below w.heap.size w w' := by
  by_cases h40 : 40000 < s.size
  · have hr : Hid (LX.scan (bs s) = .bad 2 0) := scan_long h40
    have h40' : (40000 : Int) < (s.size : Int) := by omega
    clear h40
    go_enter Tryd.func14, Tryd.ntmps14
    go_wp2
    go_ret3
    exact ⟨.bad hr.out rfl rfl, Below.refl _ _⟩
  have h40' : ¬ (40000 : Int) < (s.size : Int) := by omega
  have hs : s.size ≤ 40000 := by omega
  obtain ⟨ti, hi1, hi2, hi3, hi4⟩ := info_parts tok_info
  have hI : Tryd.prog.info? 32 = some ti ∧ ti.zero = some (.agg #[.int .i64 0, .string ⟨#[]⟩, .int .i64 0, .int .i64 0]) ∧ ti.size = 4 ∧ ti.bytes = 40 := ⟨hi1, hi2, hi3, hi4⟩
  have HI := Lib.hid hI
  clear hI hi1 hi2 hi3 hi4 h40
  go_enter Tryd.func14, Tryd.ntmps14
  go_wp2_with (first
    | (go_at_call 20; refine (keywords_c _).mono ?_; rintro e w1 ⟨mb, rfl, hK1, hmb1, hb1⟩; have HK1 := Lib.hid hK1; clear hK1)
    | (go_at_call 21; refine (Signs_c _).mono ?_; rintro e w2 ⟨sv, rfl, hr2, hb2⟩; obtain ⟨sva, sc, rfl, hsl, hsc⟩ := hr2; rw [show LX.signL.length = 28 from rfl] at *; obtain ⟨sb, so, rfl, hsg⟩ := hsc.resolve_left (by decide); have HSG := Lib.hid hsg; clear hsg hsl))
  obtain ⟨b, hbz⟩ : ∃ b, w2.heap.size = b := ⟨_, rfl⟩
  have hw2 := hb1.size
  have hw3 := hb2.size
  have hsbl : sb < b := by rw [← hbz]; exact World.block_lt_of_cell? w2 ⟨sb, so + 0, none⟩ (HSG.out 0 (by omega))
  have hmbl : mb < b := by
    have h1 := HK1.out
    have h2 : mb < w1.heap.size := World.ownsMap.lt h1
    omega
  obtain ⟨W0, hW0⟩ : ∃ W0, w2.alloc (.cells #[.string s, .int .i64 0, .int .i64 0, (.map (some mb)), (.slice (some ⟨sb, so, none⟩) 28 sc)] 61) = W0 := ⟨_, rfl⟩
  have hS0 : Scn W0 b s 0 0 (.map (some mb)) (.slice (some ⟨sb, so, none⟩) 28 sc) := by
    rw [← hW0, ← hbz]
    exact ⟨(World.cell?_alloc_at _ _ _ _ rfl).trans rfl, (World.cell?_alloc_at _ _ _ _ rfl).trans rfl, (World.cell?_alloc_at _ _ _ _ rfl).trans rfl, (World.cell?_alloc_at _ _ _ _ rfl).trans rfl, (World.cell?_alloc_at _ _ _ _ rfl).trans rfl, fun o => by simp⟩
  have hB20 : Below w2.heap.size w2 W0 := by rw [← hW0]; exact below_alloc _ _
  have hK0 : Keys W0 mb := (HK1.out.kept (only_of_below hb2 none) (by simp)).kept (only_of_below hB20 none) (by simp)
  have hG0 : Sgs W0 sb so := fun i hi => by
    have h1 := HSG.out i hi
    exact (hB20.cell (p := ⟨sb, so + i, none⟩) (World.block_lt_of_cell? _ _ h1)).trans h1
  have hBW0 : Below w.heap.size w W0 := below_then hb1 (below_then hb2 hB20)
  have hwb : w.heap.size ≤ b := by rw [← hbz]; omega
  have hz0 : W0.heap.size = b + 1 := by rw [← hW0, ← hbz]; simp
  rw [hW0, hbz]
  have HK0 := Lib.hid hK0
  have HG0 := Lib.hid hG0
  have HZ0 := Lib.hid hz0
  have HS0 := Lib.hid hS0
  have HBW := Lib.hid hBW0
  clear hBW0 hw2 hw3 hW0 hB20 hK0 hG0 hz0 hS0 HK1 HSG hb1 hb2 hbz hmb1 hsc
  go_loopw [6] (fun v wr => ∃ (p0 q : Nat) (ts : List LX.Tok), q ≤ s.size ∧ ts.length ≤ 20000 ∧ Hid (ScanAt s q ts) ∧ Scn wr b s p0 q (.map (some mb)) (.slice (some ⟨sb, so, none⟩) 28 sc) ∧ wr.ownsRow (b + 1) 32 4 v ts.length (ts.flatMap tcells) ∧ W0.grownBy wr (some b)) (fun _ wr => s.size - nextOf wr b)
  case atStart => exact ⟨0, 0, [], Nat.zero_le _, by simp, ScanAt.start s, HS0.out, ⟨by simp, .inl ⟨rfl, rfl⟩⟩, only_refl _ _⟩
  case round =>
    obtain ⟨p0, q, ts, hqs, htl, hq, hS2, hown, hg⟩ := hrel
    obtain ⟨sa, tc, rfl⟩ := owns_form hown
    have HN := Lib.hid hS2.next
    have hob : ∀ k, (Value.slice sa ts.length tc).ownBlock = some k → b + 1 ≤ k := fun k e => (hown.lt k e).1
    have hobb : (Value.slice sa ts.length tc).ownBlock ≠ some b := fun e => by have := hob b e; omega
    have hwr := hg.size
    have hsk := skip_le s q false hqs
    have HSK := Lib.hid (fun (W : World) (h : Scn W b s p0 q (.map (some mb)) (.slice (some ⟨sb, so, none⟩) 28 sc)) => skip_c s b p0 q (.map (some mb)) (.slice (some ⟨sb, so, none⟩) 28 sc) W (by omega) h hqs)
    obtain ⟨p, hp⟩ : ∃ p, q + LX.skipG false (tl s q) = p := ⟨_, rfl⟩
    rw [hp] at HSK hsk
    have hpq : p = q + LX.skipG false (tl s q) := hp.symm
    have HPQ := Lib.hid hpq
    have hqp : q ≤ p := by omega
    clear hp hpq
    by_cases hlt : p < s.size
    · have hT := tells s b p mb sb so sc (by omega) hlt (by omega) (by omega)
      cases ht : LX.tok s[p] (tl s (p + 1)) with
      | bad er =>
        have he := tok_bad ht
        have he2 : ((er : Int) == 0) = false := by simp; omega
        have he3 : ((er : Int) != 0) = true := by simp; omega
        have hr : Hid (LX.scan (bs s) = .bad er p) := hq.out.bad hs HPQ.out hlt ht htl
        rw [ht] at hT
        clear ht he
        rcases hT with hT | hT | hT | hT | hT | hT
        all_goals
          have HT1 := Lib.hid hT.1
          have HT2 := Lib.hid hT.2
          clear hT
          go_wp2_with (first
            | (go_at_call 27; refine (HSK.out _ hS2).mono ?_; rintro e w3 ⟨rfl, hS3, hg3⟩; have hk3 : Keys w3 mb := HK0.out.kept (only_trans hg hg3) (by simp; omega); have hsg3 : Sgs w3 sb so := fun i hi => (only_trans hg hg3).cell (HG0.out i hi) (by simp; omega))
            | (go_at_call 28; refine (HT1.out _ hS3).mono ?_; rintro e w' ⟨rfl, n3, rfl⟩)
            | (go_at_call 42; refine (HT2.out _ (hS3.drewN _) (hk3.drewN _) (hsg3.drewN _)).mono ?_; rintro e w4 ⟨hm, hg4⟩; obtain ⟨rfl, q4, hS4⟩ := hm; have hg14 := only_trans (only_drewN (only_trans hg hg3) n3) hg4; have hl4 := hS4.lt; have HS4 := Lib.hid hS4; have hsz4 := hg14.size; have hown4 := hown.kept (only_trans (only_drewN hg3 n3) hg4) (.inr hobb); obtain ⟨d0, d1, d2, d3, d4, d5⟩ := hS4)
            | (go_at_call 44; refine (HT2.out _ (hS3.drewN _) (hk3.drewN _) (hsg3.drewN _)).mono ?_; rintro e w4 ⟨hm, hg4⟩; obtain ⟨rfl, q4, hS4⟩ := hm; have hg14 := only_trans (only_drewN (only_trans hg hg3) n3) hg4; have hl4 := hS4.lt; have HS4 := Lib.hid hS4; have hsz4 := hg14.size; have hown4 := hown.kept (only_trans (only_drewN hg3 n3) hg4) (.inr hobb); obtain ⟨d0, d1, d2, d3, d4, d5⟩ := hS4)
            | (go_at_call 45; refine (HT2.out _ (hS3.drewN _) (hk3.drewN _) (hsg3.drewN _)).mono ?_; rintro e w4 ⟨hm, hg4⟩; obtain ⟨rfl, q4, hS4⟩ := hm; have hg14 := only_trans (only_drewN (only_trans hg hg3) n3) hg4; have hl4 := hS4.lt; have HS4 := Lib.hid hS4; have hsz4 := hg14.size; have hown4 := hown.kept (only_trans (only_drewN hg3 n3) hg4) (.inr hobb); obtain ⟨d0, d1, d2, d3, d4, d5⟩ := hS4)
            | (go_at_call 46; refine (HT2.out _ (hS3.drewN _) (hk3.drewN _) (hsg3.drewN _)).mono ?_; rintro e w4 ⟨hm, hg4⟩; obtain ⟨rfl, q4, hS4⟩ := hm; have hg14 := only_trans (only_drewN (only_trans hg hg3) n3) hg4; have hl4 := hS4.lt; have HS4 := Lib.hid hS4; have hsz4 := hg14.size; have hown4 := hown.kept (only_trans (only_drewN hg3 n3) hg4) (.inr hobb); obtain ⟨d0, d1, d2, d3, d4, d5⟩ := hS4)
            | (go_at_call 47; refine (HT2.out _ (hS3.drewN _) (hk3.drewN _) (hsg3.drewN _)).mono ?_; rintro e w4 ⟨hm, hg4⟩; obtain ⟨rfl, q4, hS4⟩ := hm; have hg14 := only_trans (only_drewN (only_trans hg hg3) n3) hg4; have hl4 := hS4.lt; have HS4 := Lib.hid hS4; have hsz4 := hg14.size; have hown4 := hown.kept (only_trans (only_drewN hg3 n3) hg4) (.inr hobb); obtain ⟨d0, d1, d2, d3, d4, d5⟩ := hS4)
            | (go_at_call 48; refine (HT2.out _ (hS3.drewN _) (hk3.drewN _) (hsg3.drewN _)).mono ?_; rintro e w4 ⟨hm, hg4⟩; obtain ⟨rfl, q4, hS4⟩ := hm; have hg14 := only_trans (only_drewN (only_trans hg hg3) n3) hg4; have hl4 := hS4.lt; have HS4 := Lib.hid hS4; have hsz4 := hg14.size; have hown4 := hown.kept (only_trans (only_drewN hg3 n3) hg4) (.inr hobb); obtain ⟨d0, d1, d2, d3, d4, d5⟩ := hS4)
          )
          go_quiet (fail)
          go_wp2
          go_ret3
          exact ⟨.bad hr.out rfl rfl, (below_drewN (Below.alloc (Below.grown HBW.out hg14 HBW.out.size (fun k e => by injection e with e; omega)) (by have := HBW.out.size; omega) _) _)⟩
      | good kd x n len =>
        have hkd := tok_kind ht
        have hkd2 : ((kd : Int) == 0) = false := by simp; omega
        by_cases hfull : ts.length = 20000
        · have hr : Hid (LX.scan (bs s) = .bad 2 p) := hq.out.full hs HPQ.out hlt ht hfull
          have g1 : ((ts.length : Int) == 20000) = true := intEqT (by omega)
          rw [ht] at hT
          clear ht hfull hkd
          rcases hT with hT | hT | hT | hT | hT | hT
          all_goals
            have HT1 := Lib.hid hT.1
            have HT2 := Lib.hid hT.2
            clear hT
            go_wp2_with (first
              | (go_at_call 27; refine (HSK.out _ hS2).mono ?_; rintro e w3 ⟨rfl, hS3, hg3⟩; have hk3 : Keys w3 mb := HK0.out.kept (only_trans hg hg3) (by simp; omega); have hsg3 : Sgs w3 sb so := fun i hi => (only_trans hg hg3).cell (HG0.out i hi) (by simp; omega))
              | (go_at_call 28; refine (HT1.out _ hS3).mono ?_; rintro e w' ⟨rfl, n3, rfl⟩)
              | (go_at_call 42; refine (HT2.out _ (hS3.drewN _) (hk3.drewN _) (hsg3.drewN _)).mono ?_; rintro e w4 ⟨hm, hg4⟩; obtain ⟨rfl, hS4⟩ := hm; have hg14 := only_trans (only_drewN (only_trans hg hg3) n3) hg4; have hl4 := hS4.lt; have HS4 := Lib.hid hS4; have hsz4 := hg14.size; have hown4 := hown.kept (only_trans (only_drewN hg3 n3) hg4) (.inr hobb); obtain ⟨d0, d1, d2, d3, d4, d5⟩ := hS4)
              | (go_at_call 44; refine (HT2.out _ (hS3.drewN _) (hk3.drewN _) (hsg3.drewN _)).mono ?_; rintro e w4 ⟨hm, hg4⟩; obtain ⟨rfl, hS4⟩ := hm; have hg14 := only_trans (only_drewN (only_trans hg hg3) n3) hg4; have hl4 := hS4.lt; have HS4 := Lib.hid hS4; have hsz4 := hg14.size; have hown4 := hown.kept (only_trans (only_drewN hg3 n3) hg4) (.inr hobb); obtain ⟨d0, d1, d2, d3, d4, d5⟩ := hS4)
              | (go_at_call 45; refine (HT2.out _ (hS3.drewN _) (hk3.drewN _) (hsg3.drewN _)).mono ?_; rintro e w4 ⟨hm, hg4⟩; obtain ⟨rfl, hS4⟩ := hm; have hg14 := only_trans (only_drewN (only_trans hg hg3) n3) hg4; have hl4 := hS4.lt; have HS4 := Lib.hid hS4; have hsz4 := hg14.size; have hown4 := hown.kept (only_trans (only_drewN hg3 n3) hg4) (.inr hobb); obtain ⟨d0, d1, d2, d3, d4, d5⟩ := hS4)
              | (go_at_call 46; refine (HT2.out _ (hS3.drewN _) (hk3.drewN _) (hsg3.drewN _)).mono ?_; rintro e w4 ⟨hm, hg4⟩; obtain ⟨rfl, hS4⟩ := hm; have hg14 := only_trans (only_drewN (only_trans hg hg3) n3) hg4; have hl4 := hS4.lt; have HS4 := Lib.hid hS4; have hsz4 := hg14.size; have hown4 := hown.kept (only_trans (only_drewN hg3 n3) hg4) (.inr hobb); obtain ⟨d0, d1, d2, d3, d4, d5⟩ := hS4)
              | (go_at_call 47; refine (HT2.out _ (hS3.drewN _) (hk3.drewN _) (hsg3.drewN _)).mono ?_; rintro e w4 ⟨hm, hg4⟩; obtain ⟨rfl, hS4⟩ := hm; have hg14 := only_trans (only_drewN (only_trans hg hg3) n3) hg4; have hl4 := hS4.lt; have HS4 := Lib.hid hS4; have hsz4 := hg14.size; have hown4 := hown.kept (only_trans (only_drewN hg3 n3) hg4) (.inr hobb); obtain ⟨d0, d1, d2, d3, d4, d5⟩ := hS4)
              | (go_at_call 48; refine (HT2.out _ (hS3.drewN _) (hk3.drewN _) (hsg3.drewN _)).mono ?_; rintro e w4 ⟨hm, hg4⟩; obtain ⟨rfl, hS4⟩ := hm; have hg14 := only_trans (only_drewN (only_trans hg hg3) n3) hg4; have hl4 := hS4.lt; have HS4 := Lib.hid hS4; have hsz4 := hg14.size; have hown4 := hown.kept (only_trans (only_drewN hg3 n3) hg4) (.inr hobb); obtain ⟨d0, d1, d2, d3, d4, d5⟩ := hS4)
            )
            go_quiet (fail)
            go_wp2
            go_ret3
            exact ⟨.bad hr.out rfl rfl, (below_drewN (Below.alloc (Below.grown HBW.out hg14 HBW.out.size (fun k e => by injection e with e; omega)) (by have := HBW.out.size; omega) _) _)⟩
        · have g1 : ((ts.length : Int) == 20000) = false := intEqF (by omega)
          obtain ⟨hm1, hm2, hm3⟩ := hq.out.more HPQ.out hlt ht
          have HM : Hid (ScanAt s (p + len) (ts ++ [⟨kd, x, n, p⟩])) := hm1
          have hfl : ts.length + 1 ≤ 20000 := by omega
          rw [ht] at hT
          clear ht hfull hkd hm1
          rcases hT with hT | hT | hT | hT | hT | hT
          all_goals
            have HT1 := Lib.hid hT.1
            have HT2 := Lib.hid hT.2
            clear hT
            go_wp2_with (first
              | (go_at_call 27; refine (HSK.out _ hS2).mono ?_; rintro e w3 ⟨rfl, hS3, hg3⟩; have hk3 : Keys w3 mb := HK0.out.kept (only_trans hg hg3) (by simp; omega); have hsg3 : Sgs w3 sb so := fun i hi => (only_trans hg hg3).cell (HG0.out i hi) (by simp; omega))
              | (go_at_call 28; refine (HT1.out _ hS3).mono ?_; rintro e w' ⟨rfl, n3, rfl⟩)
              | (go_at_call 42; refine (HT2.out _ (hS3.drewN _) (hk3.drewN _) (hsg3.drewN _)).mono ?_; rintro e w4 ⟨hm, hg4⟩; obtain ⟨rfl, hS4⟩ := hm; have hg14 := only_trans (only_drewN (only_trans hg hg3) n3) hg4; have hl4 := hS4.lt; have HS4 := Lib.hid hS4; have hsz4 := hg14.size; have hown4 := hown.kept (only_trans (only_drewN hg3 n3) hg4) (.inr hobb); obtain ⟨d0, d1, d2, d3, d4, d5⟩ := hS4)
              | (go_at_call 44; refine (HT2.out _ (hS3.drewN _) (hk3.drewN _) (hsg3.drewN _)).mono ?_; rintro e w4 ⟨hm, hg4⟩; obtain ⟨rfl, hS4⟩ := hm; have hg14 := only_trans (only_drewN (only_trans hg hg3) n3) hg4; have hl4 := hS4.lt; have HS4 := Lib.hid hS4; have hsz4 := hg14.size; have hown4 := hown.kept (only_trans (only_drewN hg3 n3) hg4) (.inr hobb); obtain ⟨d0, d1, d2, d3, d4, d5⟩ := hS4)
              | (go_at_call 45; refine (HT2.out _ (hS3.drewN _) (hk3.drewN _) (hsg3.drewN _)).mono ?_; rintro e w4 ⟨hm, hg4⟩; obtain ⟨rfl, hS4⟩ := hm; have hg14 := only_trans (only_drewN (only_trans hg hg3) n3) hg4; have hl4 := hS4.lt; have HS4 := Lib.hid hS4; have hsz4 := hg14.size; have hown4 := hown.kept (only_trans (only_drewN hg3 n3) hg4) (.inr hobb); obtain ⟨d0, d1, d2, d3, d4, d5⟩ := hS4)
              | (go_at_call 46; refine (HT2.out _ (hS3.drewN _) (hk3.drewN _) (hsg3.drewN _)).mono ?_; rintro e w4 ⟨hm, hg4⟩; obtain ⟨rfl, hS4⟩ := hm; have hg14 := only_trans (only_drewN (only_trans hg hg3) n3) hg4; have hl4 := hS4.lt; have HS4 := Lib.hid hS4; have hsz4 := hg14.size; have hown4 := hown.kept (only_trans (only_drewN hg3 n3) hg4) (.inr hobb); obtain ⟨d0, d1, d2, d3, d4, d5⟩ := hS4)
              | (go_at_call 47; refine (HT2.out _ (hS3.drewN _) (hk3.drewN _) (hsg3.drewN _)).mono ?_; rintro e w4 ⟨hm, hg4⟩; obtain ⟨rfl, hS4⟩ := hm; have hg14 := only_trans (only_drewN (only_trans hg hg3) n3) hg4; have hl4 := hS4.lt; have HS4 := Lib.hid hS4; have hsz4 := hg14.size; have hown4 := hown.kept (only_trans (only_drewN hg3 n3) hg4) (.inr hobb); obtain ⟨d0, d1, d2, d3, d4, d5⟩ := hS4)
              | (go_at_call 48; refine (HT2.out _ (hS3.drewN _) (hk3.drewN _) (hsg3.drewN _)).mono ?_; rintro e w4 ⟨hm, hg4⟩; obtain ⟨rfl, hS4⟩ := hm; have hg14 := only_trans (only_drewN (only_trans hg hg3) n3) hg4; have hl4 := hS4.lt; have HS4 := Lib.hid hS4; have hsz4 := hg14.size; have hown4 := hown.kept (only_trans (only_drewN hg3 n3) hg4) (.inr hobb); obtain ⟨d0, d1, d2, d3, d4, d5⟩ := hS4)
              | (at_builtin; refine wpList_append_grow (by rfl) _ _ _ (by rfl) (b + 1) 32 ti _ 4 40 Tryd.underlying28 HI.out (by decide) rfl (by decide) (.slice sa ts.length tc) ts.length (ts.flatMap tcells) (by rfl) (hown4.alloc _) [.int .i64 (kd : Int), .string ⟨x.toArray⟩, .int .i64 n, .int .i64 (p : Int)] rfl (by simp [Value.oneCell']) (w4.heap.size + 1) (by simp) (by rfl) (by omega) (by have := HZ0.out; simp; omega) ?_; intro v5 w5 hown5 hgr5; have hbox : w5.cell? ⟨w4.heap.size, 0, none⟩ = some (.int .i64 (kd : Int)) := by refine hgr5.cell (by simp) ?_; intro e; have h4 := hown4.lt _ e.symm; exact Nat.lt_irrefl _ h4.2)
            )
            go_roundw
            case rel => exact ⟨p, p + len, ts ++ [⟨kd, x, n, p⟩], hm2, by simp; omega, HM, (HS4.out.alloc _).grown hgr5 hobb, by rw [tcells_snoc]; simpa [tcells] using hown5, only_grown (only_alloc hg14 _) hgr5 (fun k e => by have := hob k e; have := HZ0.out; omega)⟩
            case measure => rw [((HS4.out.alloc _).grown hgr5 hobb).next, HN.out]; omega
    · have hpp : p = s.size := by omega
      have HPE : Hid (q + LX.skipG false (tl s q) = s.size) := by show _ = _; rw [← HPQ.out, hpp]
      have HT1 := Lib.hid (fun (W : World) (h : Scn W b s p p (.map (some mb)) (.slice (some ⟨sb, so, none⟩) 28 sc)) => teller_end s b p (.map (some mb)) (.slice (some ⟨sb, so, none⟩) 28 sc) W (by omega) h hpp)
      have HEN := Lib.hid (fun (W : World) (h : Scn W b s p p (.map (some mb)) (.slice (some ⟨sb, so, none⟩) 28 sc)) => end_c s b p (.map (some mb)) (.slice (some ⟨sb, so, none⟩) 28 sc) W h)
      by_cases hfull : ts.length = 20000
      · have hr : Hid (LX.scan (bs s) = .bad 2 p) := by show _ = _; rw [hpp]; exact hq.out.fin_full hs HPE.out hfull
        have g1 : ((ts.length : Int) == 20000) = true := intEqT (by omega)
        clear hfull hpp
        go_wp2_with (first
          | (go_at_call 27; refine (HSK.out _ hS2).mono ?_; rintro e w3 ⟨rfl, hS3, hg3⟩; have hk3 : Keys w3 mb := HK0.out.kept (only_trans hg hg3) (by simp; omega); have hsg3 : Sgs w3 sb so := fun i hi => (only_trans hg hg3).cell (HG0.out i hi) (by simp; omega))
          | (go_at_call 28; refine (HT1.out _ hS3).mono ?_; rintro e w' ⟨rfl, n3, rfl⟩)
          | (go_at_call 40; refine (HEN.out _ (hS3.drewN _)).mono ?_; rintro e w4 ⟨rfl, hS4, hg4⟩; have hg14 := only_trans (only_drewN (only_trans hg hg3) n3) hg4; have hl4 := hS4.lt; have HS4 := Lib.hid hS4; have hsz4 := hg14.size; have hown4 := hown.kept (only_trans (only_drewN hg3 n3) hg4) (.inr hobb); obtain ⟨d0, d1, d2, d3, d4, d5⟩ := hS4)
        )
        go_quiet (fail)
        go_wp2
        go_ret3
        exact ⟨.bad hr.out rfl rfl, (below_drewN (Below.alloc (Below.grown HBW.out hg14 HBW.out.size (fun k e => by injection e with e; omega)) (by have := HBW.out.size; omega) _) _)⟩
      · have hr : Hid (LX.scan (bs s) = .good (ts ++ [⟨0, [], 0, p⟩])) := by show _ = _; rw [hpp]; exact hq.out.fin hs HPE.out (by omega)
        have g1 : ((ts.length : Int) == 20000) = false := intEqF (by omega)
        clear hfull hpp
        go_wp2_with (first
          | (go_at_call 27; refine (HSK.out _ hS2).mono ?_; rintro e w3 ⟨rfl, hS3, hg3⟩; have hk3 : Keys w3 mb := HK0.out.kept (only_trans hg hg3) (by simp; omega); have hsg3 : Sgs w3 sb so := fun i hi => (only_trans hg hg3).cell (HG0.out i hi) (by simp; omega))
          | (go_at_call 28; refine (HT1.out _ hS3).mono ?_; rintro e w' ⟨rfl, n3, rfl⟩)
          | (go_at_call 40; refine (HEN.out _ (hS3.drewN _)).mono ?_; rintro e w4 ⟨rfl, hS4, hg4⟩; have hg14 := only_trans (only_drewN (only_trans hg hg3) n3) hg4; have hl4 := hS4.lt; have HS4 := Lib.hid hS4; have hsz4 := hg14.size; have hown4 := hown.kept (only_trans (only_drewN hg3 n3) hg4) (.inr hobb); obtain ⟨d0, d1, d2, d3, d4, d5⟩ := hS4)
          | (at_builtin; refine wpList_append_grow (by rfl) _ _ _ (by rfl) (b + 1) 32 ti _ 4 40 Tryd.underlying28 HI.out (by decide) rfl (by decide) (.slice sa ts.length tc) ts.length (ts.flatMap tcells) (by rfl) (hown4.alloc _) [.int .i64 0, .string ⟨#[]⟩, .int .i64 0, .int .i64 (p : Int)] rfl (by simp [Value.oneCell']) (w4.heap.size + 1) (by simp) (by rfl) (by omega) (by have := HZ0.out; simp; omega) ?_; intro v5 w5 hown5 hgr5; have hbox : w5.cell? ⟨w4.heap.size, 0, none⟩ = some (.int .i64 0) := by refine hgr5.cell (by simp) ?_; intro e; have h4 := hown4.lt _ e.symm; exact Nat.lt_irrefl _ h4.2)
        )
        go_ret3
        exact ⟨.good hr.out (RdT.of_owns (n := ts.length + 1) (by rw [tcells_snoc]; exact hown5) (by simp; omega)), (Below.grown HBW.out (only_grown (only_alloc hg14 _) hgr5 (fun k e => by have := hob k e; have := HZ0.out; omega)) HBW.out.size (fun k e => by injection e with e; omega))⟩
end Go.Proofs.YtpcepfoebkmbgaaDoor
