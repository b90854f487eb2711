/- The program's scanner: signs. -/
import Derived.Test.YtpcepfoebkmbgaaDoorLxMDec
namespace Go.Proofs.YtpcepfoebkmbgaaDoor
open Go.RowKit
set_option linter.unusedVariables false
/-- the longest sign that the source begins with, of those of a list -/
def bestS (l : LX.Bs) (xs : List LX.Bs) : LX.Bs := xs.foldl (fun acc x => if acc.length < x.length ∧ l.take x.length = x then x else acc) []
theorem bestS_snoc (l : LX.Bs) (xs : List LX.Bs) (x : LX.Bs) : bestS l (xs ++ [x]) = if (bestS l xs).length < x.length ∧ l.take x.length = x then x else bestS l xs := by unfold bestS; rw [List.foldl_append]; rfl
theorem bestS_ok (l : LX.Bs) (n : Nat) : ∀ xs : List LX.Bs, xs.length ≤ n → (bestS l xs = [] ∨ (bestS l xs ∈ xs ∧ l.take (bestS l xs).length = bestS l xs)) ∧ ∀ x ∈ xs, l.take x.length = x → x.length ≤ (bestS l xs).length := by
  induction n with
  | zero => intro xs h; have : xs = [] := List.length_eq_zero_iff.1 (by omega); subst this; exact ⟨.inl rfl, by simp⟩
  | succ n ih =>
    intro xs h
    rcases List.eq_nil_or_concat xs with rfl | ⟨ys, a, rfl⟩
    · exact ⟨.inl rfl, by simp⟩
    · rw [List.concat_eq_append] at h ⊢
      obtain ⟨h1, h2⟩ := ih ys (by simp at h; omega)
      rw [bestS_snoc]
      by_cases hc : (bestS l ys).length < a.length ∧ l.take a.length = a
      · rw [if_pos hc]
        refine ⟨.inr ⟨by simp, hc.2⟩, fun x hx hp => ?_⟩
        rcases List.mem_append.1 hx with hx | hx
        · have := h2 x hx hp; omega
        · simp at hx; subst hx; exact Nat.le_refl _
      · rw [if_neg hc]
        refine ⟨?_, fun x hx hp => ?_⟩
        · rcases h1 with h1 | ⟨h1, h3⟩
          · exact .inl h1
          · exact .inr ⟨List.mem_append_left _ h1, h3⟩
        · rcases List.mem_append.1 hx with hx | hx
          · exact h2 x hx hp
          · simp at hx; subst hx
            rcases Nat.lt_or_ge (bestS l ys).length x.length with h0 | h0
            · exact absurd ⟨h0, hp⟩ hc
            · exact h0
theorem sign_best (c : UInt8) (r : LX.Bs) : LX.signR (c :: r) = if bestS (c :: r) LX.signL = [] then .bad 20 else .good 5 (bestS (c :: r) LX.signL) 0 (bestS (c :: r) LX.signL).length := by
  obtain ⟨h1, h2⟩ := bestS_ok (c :: r) _ LX.signL (Nat.le_refl _)
  generalize bestS (c :: r) LX.signL = y at *
  have hlen := LX.signL_len
  unfold LX.signR
  by_cases t2 : (c :: r).take 2 ∈ LX.signL
  · rw [if_pos t2]
    have hp : (c :: r).take ((c :: r).take 2).length = (c :: r).take 2 := by
      rw [List.length_take]
      rcases Nat.le_total 2 (c :: r).length with h | h
      · rw [Nat.min_eq_left h]
      · rw [Nat.min_eq_right h, List.take_length, List.take_of_length_le h]
    have hle := h2 _ t2 hp
    rcases h1 with rfl | ⟨hy, hyp⟩
    · simp at hle
    · have hl2 := hlen y hy
      have hy2 : y = (c :: r).take 2 := by
        have hyl : y.length ≤ (c :: r).length := by have := congrArg List.length hyp; rw [List.length_take] at this; omega
        rw [List.length_take] at hle
        rcases hl2 with h | h
        · have hc1 : 1 ≤ (c :: r).length := by simp
          have : (c :: r).length = 1 := by omega
          rw [List.take_of_length_le (by omega)]
          rw [← hyp, h, List.take_of_length_le (by omega)]
        · rw [← hyp, h]
      rw [← hy2, if_neg (by intro h; subst h; simp at hl2)]
  · rw [if_neg t2]
    by_cases t1 : (c :: r).take 1 ∈ LX.signL
    · rw [if_pos t1]
      have hle := h2 _ t1 rfl
      rcases h1 with rfl | ⟨hy, hyp⟩
      · simp at hle
      · rcases hlen y hy with h | h
        · have hy1 : y = (c :: r).take 1 := by rw [← hyp, h]
          rw [if_neg (by intro h0; subst h0; simp at h), ← hy1, h]
        · rw [h] at hyp; rw [hyp] at t2; exact absurd hy t2
    · rw [if_neg t1]
      rcases h1 with rfl | ⟨hy, hyp⟩
      · rw [if_pos rfl]
      · rcases hlen y hy with h | h
        · rw [h] at hyp; rw [hyp] at t1; exact absurd hy t1
        · rw [h] at hyp; rw [hyp] at t2; exact absurd hy t2
theorem HasPrefix_q (a b : ByteArray) (ha : a.size ≤ 9223372036854775807) (r : Bool) (hr : r = decide ((bs a).take (bs b).length = bs b)) (w : World) :
    Calls Tryd.prog 59 #[.string a, .string b] w fun e w' => e = .returned (.bool r) ∧ w' = w :=
  (HasPrefix_c a b w ha r hr).mono fun _ _ h => ⟨h.1, h.2.symm⟩
set_option maxHeartbeats 1000000 in
theorem sign_c (s : ByteArray) (b p sb so sc : Nat) (km : Value) (w : World) (hs : s.size ≤ 1000000) (hp : p < s.size) (hS : Scn w b s p p km (.slice (some ⟨sb, so, none⟩) 28 sc)) (hsb : sb ≠ b) (hsg : ∀ i, i < 28 → w.cell? ⟨sb, so + i, none⟩ = some (.string ⟨(LX.signL.getD i []).toArray⟩)) :
    Calls Tryd.prog 48 #[.pointer (some ⟨b, 0, none⟩)] w fun e w' => TokM (LX.signR (tl s p)) e w' b s p km (.slice (some ⟨sb, so, none⟩) 28 sc) ∧ w.grownBy w' (some b) := by
  have hl := hS.lt
  have hne : w.heap.size ≠ b := by omega
  have HS := Lib.hid hS
  have HSG := Lib.hid hsg
  have hbest := sign_best s[p] (tl s (p + 1))
  rw [← tl_cons s p hp] at hbest
  have HBEST := Lib.hid hbest
  have hplt := hp
  clear hsg hbest
  obtain ⟨c0, c1, c2, c3, c4, c5⟩ := hS
  go_enter Tryd.func48, Tryd.ntmps48
  go_wp2
  clear c0 c1 c2 c3 c4 c5
  go_loopw [4, 12] (fun v i wr => ∃ (k : Nat) (acc : LX.Bs), k ≤ 28 ∧ i = .int .i64 k ∧ v = .string ⟨acc.toArray⟩ ∧ acc.length ≤ 2 ∧ Hid (acc = bestS (tl s p) (LX.signL.take k)) ∧ Scn wr b s p p km (.slice (some ⟨sb, so, none⟩) 28 sc) ∧ (w.alloc (.cells #[.int .i64 0, .string ⟨#[]⟩, .int .i64 0, .int .i64 0] 32)).grownBy wr (some b)) (fun _ i _ => 28 - (intOf i).toNat)
  case atStart => exact ⟨0, [], by omega, rfl, rfl, by simp, (show Hid _ from (rfl : [] = bestS (tl s p) (LX.signL.take 0))), HS.out.alloc _, only_refl _ _⟩
  case round =>
    obtain ⟨k, acc, hk, rfl, rfl, hac, hq, hS2, hg⟩ := hrel
    have HS2 := Lib.hid hS2
    have hl2 := hS2.lt
    obtain ⟨c0, c1, c2, c3, c4, c5⟩ := hS2
    have p0 : (0 : Int) ≤ (p : Int) := by omega
    have p1 : (p : Int) ≤ (s.size : Int) := by omega
    by_cases hlt : k < 28
    · have q1 : wr.cell? ⟨sb, so + k, none⟩ = some (.string ⟨(LX.signL.getD k []).toArray⟩) := (only_trans (only_alloc (only_refl w b) _) hg).cell (HSG.out k hlt) (by simpa using hsb)
      have k0 : (0 : Int) ≤ (k : Int) := by omega
      have k1 : (k : Int) < 28 := by omega
      have hlen : ∀ x ∈ LX.signL, x.length = 1 ∨ x.length = 2 := LX.signL_len
      have hmem : LX.signL.getD k [] ∈ LX.signL := by
        have : k < LX.signL.length := hlt
        simp [this]
      have hxl := hlen _ hmem
      have hts : LX.signL.take (k + 1) = LX.signL.take k ++ [LX.signL.getD k []] := by
        have : k < LX.signL.length := hlt
        rw [List.take_succ_eq_append_getElem this]; simp [this]
      have HTS := Lib.hid hts
      clear hlen hmem hts
      obtain ⟨x, hx⟩ : ∃ x, LX.signL.getD k [] = x := ⟨_, rfl⟩
      rw [hx] at q1 hxl
      have HX := Lib.hid hx
      have hx2 : x.length ≤ 2 := by omega
      clear hx hxl
      have hbn : bestS (tl s p) (LX.signL.take (k + 1)) = if acc.length < x.length ∧ (tl s p).take x.length = x then x else acc := by
        rw [HTS.out, HX.out, bestS_snoc, ← hq.out]
      have HBN := Lib.hid hbn
      clear hbn
      by_cases hl : acc.length < x.length
      · have g1 : decide ((acc.length : Int) < (x.length : Int)) = true := by rw [decide_eq_true_iff]; omega
        have g1' : decide (acc.length < x.length) = true := by rw [decide_eq_true_iff]; omega
        by_cases hpx : (tl s p).take x.length = x
        · have hpre : (true : Bool) = decide ((bs (s.extract p s.size)).take (bs ⟨x.toArray⟩).length = bs ⟨x.toArray⟩) := by
            symm
            rw [decide_eq_true_iff, ext_rest]; exact hpx
          have HP := Lib.hid (fun W => HasPrefix_q (s.extract p s.size) ⟨x.toArray⟩ (by rw [ext_size]; omega) true hpre W)
          have hq2 : Hid (x = bestS (tl s p) (LX.signL.take (k + 1))) := by show _ = _; rw [HBN.out, if_pos ⟨hl, hpx⟩]
          clear hpx hpre
          go_wp2
          go_quiet ((go_at_call 59; exact Calls.quiet_of_same (HP.out _)))
          go_wp2
          go_roundw
          case rel => exact ⟨k + 1, x, by omega, by go_num, rfl, hx2, hq2, HS2.out.drewN _, only_drewN hg _⟩
          case measure => simp [intOf]; omega
        · have hpre : (false : Bool) = decide ((bs (s.extract p s.size)).take (bs ⟨x.toArray⟩).length = bs ⟨x.toArray⟩) := by
            symm
            rw [decide_eq_false_iff_not, ext_rest]; exact hpx
          have HP := Lib.hid (fun W => HasPrefix_q (s.extract p s.size) ⟨x.toArray⟩ (by rw [ext_size]; omega) false hpre W)
          have hq2 : Hid (acc = bestS (tl s p) (LX.signL.take (k + 1))) := by show _ = _; rw [HBN.out, if_neg (fun h => hpx h.2)]
          clear hpx hpre
          go_wp2
          go_quiet ((go_at_call 59; exact Calls.quiet_of_same (HP.out _)))
          go_wp2
          go_roundw
          case rel => exact ⟨k + 1, acc, by omega, by go_num, rfl, hac, hq2, HS2.out.drewN _, only_drewN hg _⟩
          case measure => simp [intOf]; omega
      · have g1 : decide ((acc.length : Int) < (x.length : Int)) = false := by rw [decide_eq_false_iff_not]; omega
        have g1' : decide (acc.length < x.length) = false := by rw [decide_eq_false_iff_not]; omega
        have hq2 : Hid (acc = bestS (tl s p) (LX.signL.take (k + 1))) := by show _ = _; rw [HBN.out, if_neg (fun h => hl h.1)]
        go_wp2
        go_quiet (fail)
        go_wp2
        go_roundw
        case rel => exact ⟨k + 1, acc, by omega, by go_num, rfl, hac, hq2, HS2.out.drewN _, only_drewN hg _⟩
        case measure => simp [intOf]; omega
    · obtain rfl : k = 28 := by omega
      have hb28 : acc = bestS (tl s p) LX.signL := by
        have := hq.out
        rwa [List.take_of_length_le (show LX.signL.length ≤ 28 from by decide)] at this
      obtain ⟨r0, r1, r2, r3, r4, hr6⟩ := res_of (r := w.heap.size) rfl hg hne
      by_cases hnil : acc = []
      · subst hnil
        have hr : Hid (LX.signR (tl s p) = .bad 20) := by show _ = _; rw [HBEST.out, ← hb28, if_pos rfl]
        clear hb28
        go_wp2
        exact bodyPost_ret (v := .tuple #[.agg #[.int .i64 0, .string ⟨#[]⟩, .int .i64 0, .int .i64 0], .int .i64 20]) (by simp [results, Tryd.results48, go_sem, r0, r1, r2, r3]) rfl ⟨.bad (q := p) hr.out rfl (by repeat (first | (with_reducible refine Scn.farR _ _ hne _ ?_) | (with_reducible exact HS2.out))), (by repeat (first | (with_reducible refine only_setR _ _ (Nat.le_refl _) _ ?_) | (with_reducible exact only_trans (only_alloc (only_refl w b) _) hg)))⟩
      · have hr : Hid (LX.signR (tl s p) = .good 5 acc 0 acc.length) := by show _ = _; rw [HBEST.out, ← hb28, if_neg hnil]
        have hz1 : (acc == []) = false := by simpa using hnil
        have hz2 : acc.isEmpty = false := by cases acc with | nil => exact absurd rfl hnil | cons c l => rfl
        clear hb28
        go_wp2
        exact bodyPost_ret (v := .tuple #[.agg #[.int .i64 5, .string ⟨acc.toArray⟩, .int .i64 0, .int .i64 0], .int .i64 0]) (by simp [results, Tryd.results48, go_sem, r0, r1, r2, r3]) rfl ⟨.good hr.out rfl rfl rfl rfl (by repeat (first | (with_reducible refine Scn.farR _ _ hne _ ?_) | (with_reducible exact HS2.out.setNext _ _ (Int.natCast_add _ _).symm))), (by repeat (first | (with_reducible refine only_setR _ _ (Nat.le_refl _) _ ?_) | (with_reducible exact only_setCell (only_trans (only_alloc (only_refl w b) _) hg) (.inl rfl) _)))⟩
end Go.Proofs.YtpcepfoebkmbgaaDoor
