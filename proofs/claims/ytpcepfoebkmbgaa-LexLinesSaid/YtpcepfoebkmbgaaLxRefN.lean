/- The document's answer: numbers. -/
import Derived.Test.YtpcepfoebkmbgaaLxRefW
namespace Go.Proofs.Ytpcepfoebkmbgaa
open Go.RowKit
set_option linter.unusedVariables false
/-- how many digits are ahead -/
def dl (b : Nat) (s : ByteArray) (k : Nat) : Nat := (LX.digs b (tl s k)).length
theorem dl_le (b : Nat) (s : ByteArray) (k : Nat) (h : k ≤ s.size) : k + dl b s k ≤ s.size := by
  have := LX.takeWhile_le (fun c => decide (LX.nib c < b)) (tl s k)
  rw [tl_len] at this; unfold dl LX.digs; omega
theorem dl_step (b : Nat) (s : ByteArray) (k : Nat) (h : k < s.size) (hp : LX.nib s[k] < b) : dl b s k = dl b s (k + 1) + 1 := tw_step _ s k h (by simpa using hp)
theorem dl_stop (b : Nat) (s : ByteArray) (k : Nat) (h : k < s.size) (hp : ¬ LX.nib s[k] < b) : dl b s k = 0 := tw_stop _ s k h (by simpa using hp)
theorem dl_nil (b : Nat) (s : ByteArray) (k : Nat) (h : s.size ≤ k) : dl b s k = 0 := tw_nil _ s k h
/-- the value of the bytes from f to j -/
def pv (b : Nat) (s : ByteArray) (f j : Nat) : Nat := LX.val b ((tl s f).take (j - f))
theorem pv_zero (b : Nat) (s : ByteArray) (f : Nat) : pv b s f f = 0 := by simp [pv, LX.val]
theorem pv_step (b : Nat) (s : ByteArray) (f j : Nat) (hf : f ≤ j) (h : j < s.size) : pv b s f (j + 1) = pv b s f j * b + LX.nib s[j] := by
  have e : j + 1 - f = (j - f) + 1 := by omega
  have hl : j - f < (tl s f).length := by rw [tl_len]; omega
  have hg : (tl s f)[j - f] = s[j] := by
    have : (tl s f)[j - f]? = some s[j] := by
      unfold tl
      rw [List.getElem?_drop, show f + (j - f) = j by omega, List.getElem?_eq_getElem (by rw [bs_len]; exact h)]; rfl
    rw [List.getElem?_eq_getElem hl] at this
    injection this
  unfold pv LX.val
  rw [e, List.take_succ_eq_append_getElem hl, List.foldl_append, hg]; rfl
theorem pv_all (b : Nat) (s : ByteArray) (f j : Nat) (h : j = f + dl b s f) : pv b s f j = LX.val b (LX.digs b (tl s f)) := by
  have e : j - f = dl b s f := by omega
  unfold pv
  rw [e]
  have : LX.digs b (tl s f) = (tl s f).take (dl b s f) := tw_take _ _
  rw [← this]
/-- what n says of the value v, if most is the greatest number -/
def NR (M v : Nat) (n : Int) : Prop := (v ≤ M ∧ n = (v : Int)) ∨ (M < v ∧ (M : Int) < n ∧ n ≤ (M : Int) * 16 + 16)
theorem NR.bd {M v : Nat} {n : Int} (h : NR M v n) : 0 ≤ n ∧ n ≤ (M : Int) * 16 + 16 := by
  rcases h with h | h <;> omega
theorem NR.go {M v : Nat} {n : Int} (h : NR M v n) (hn : n ≤ M) (b d : Nat) (hb : b = 10 ∨ b = 16) (hd : d < b) : NR M (v * b + d) (n * (b : Int) + (d : Int)) := by
  have h1 : v ≤ M ∧ n = (v : Int) := by rcases h with h | h <;> omega
  obtain ⟨h1, rfl⟩ := h1
  rcases Nat.lt_or_ge M (v * b + d) with h2 | h2
  · right; rcases hb with rfl | rfl <;> refine ⟨h2, ?_, ?_⟩ <;> omega
  · left; exact ⟨h2, by rw [Int.natCast_add, Int.natCast_mul]⟩
theorem NR.stay {M v : Nat} {n : Int} (h : NR M v n) (hn : ¬ n ≤ M) (b d : Nat) (hb : 1 ≤ b) : NR M (v * b + d) n := by
  rcases h with h | h
  · omega
  · right
    have : v * 1 ≤ v * b := Nat.mul_le_mul_left v hb
    omega
theorem num_bad {b M pre : Nat} {l : LX.Bs} (h : M < LX.val b (LX.digs b l)) : LX.numR b M pre l = .bad 22 := by unfold LX.numR; rw [if_pos h]
theorem num_good {b M pre : Nat} {l : LX.Bs} (h : ¬ M < LX.val b (LX.digs b l)) : LX.numR b M pre l = .good 2 [] (LX.w32 (LX.val b (LX.digs b l))) (pre + (LX.digs b l).length) := by unfold LX.numR; rw [if_neg h]
theorem nibI_neg {c : UInt8} (h : LX.nib c = 16) : nibI c = -1 := by unfold nibI; rw [if_pos h]
theorem nibI_val {c : UInt8} (h : LX.nib c ≠ 16) : nibI c = ((LX.nib c : Nat) : Int) := by unfold nibI; rw [if_neg h]
theorem nib_le (c : UInt8) : LX.nib c ≤ 16 := by
  have := u8_bd c
  unfold LX.nib
  split
  · rename_i h; have := (LX.nib_dig h); simp only [LX.isDig, Bool.and_eq_true, decide_eq_true_eq] at h; omega
  · split
    · omega
    · split <;> omega
set_option maxHeartbeats 1000000 in
theorem refNum10_c (s : ByteArray) (k f : Nat) (w : World) (hs : s.size ≤ 1000000) (hk : k ≤ f) (hf : f ≤ s.size) :
    Calls Try.prog 48 #[.string s, .int .i64 (k : Nat), .int .i64 (f : Nat), .int .i64 10, .int .i64 2147483647] w fun e w' => TokR (LX.numR 10 2147483647 (f - k) (tl s f)) k e ∧ Below w.heap.size w w' := by
  go_enter Try.func48, Try.ntmps48
  go_wp2
  go_loop [13, 14] (fun n i => ∃ (j : Nat) (v : Int), f ≤ j ∧ j ≤ s.size ∧ i = .int .i64 j ∧ n = .int .i64 v ∧ Hid (j + dl 10 s j = f + dl 10 s f) ∧ NR 2147483647 (pv 10 s f j) v) (fun _ i => s.size - (intOf i).toNat)
  case atStart => exact ⟨f, 0, Nat.le_refl _, hf, rfl, rfl, (show Hid _ from (rfl : f + dl 10 s f = _)), .inl ⟨by rw [pv_zero]; omega, by rw [pv_zero]; rfl⟩⟩
  case round =>
    obtain ⟨j, v, hj1, hj2, rfl, rfl, hq, hv⟩ := hrel
    have hvb := hv.bd
    have HV := Lib.hid hv
    clear hv
    obtain ⟨hv1, hv2⟩ := hvb
    by_cases hgo : ∃ hlt : j < s.size, LX.nib s[j] < 10
    · obtain ⟨hlt, hd⟩ := hgo
      have hni := nibI_val (c := s[j]) (by omega)
      have hd0 : 0 ≤ nibI s[j] := by omega
      have hd1 : nibI s[j] < 10 := by omega
      have HN := Lib.hid hni
      have hq2 : Hid (j + 1 + dl 10 s (j + 1) = f + dl 10 s f) := by
        show _ = _
        have := dl_step 10 s j hlt hd
        have := hq.out; omega
      have hps := pv_step 10 s f j hj1 hlt
      by_cases hm : v ≤ 2147483647
      · have hv' := HV.out.go (by omega) 10 (LX.nib s[j]) (by omega) hd
        rw [← hps, ← hni] at hv'
        have HV' := Lib.hid hv'
        clear hps hni hv' HV hd
        go_wp2_with (first | (go_at_call 49; refine (refNib_c _ _).mono ?_; rintro e w' ⟨rfl, rfl⟩))
        go_round
        case rel => exact ⟨j + 1, _, by omega, by omega, by go_num, rfl, hq2, HV'.out⟩
        case measure => simp [intOf]; omega
      · have hv' := HV.out.stay (by omega) 10 (LX.nib s[j]) (by omega)
        rw [← hps] at hv'
        have HV' := Lib.hid hv'
        clear hps hni hv' HV hd
        go_wp2_with (first | (go_at_call 49; refine (refNib_c _ _).mono ?_; rintro e w' ⟨rfl, rfl⟩))
        go_round
        case rel => exact ⟨j + 1, _, by omega, by omega, by go_num, rfl, hq2, HV'.out⟩
        case measure => simp [intOf]; omega
    · have hz : Hid (j = f + dl 10 s f) := by
        show _ = _
        have h1 := hq.out
        by_cases hlt : j < s.size
        · have := dl_stop 10 s j hlt (fun h => hgo ⟨hlt, h⟩); omega
        · have := dl_nil 10 s j (by omega); omega
      have HP : Hid (pv 10 s f j = LX.val 10 (LX.digs 10 (tl s f))) := pv_all 10 s f j hz.out
      have hcond : (∃ hlt : j < s.size, nibI s[j] < 0) ∨ (∃ hlt : j < s.size, 0 ≤ nibI s[j] ∧ 10 ≤ nibI s[j]) ∨ ¬ j < s.size := by
        by_cases hlt : j < s.size
        · have h1 : ¬ LX.nib s[j] < 10 := fun h => hgo ⟨hlt, h⟩
          by_cases h2 : LX.nib s[j] = 16
          · left; exact ⟨hlt, by rw [nibI_neg h2]; omega⟩
          · right; left; exact ⟨hlt, by rw [nibI_val h2]; omega, by rw [nibI_val h2]; omega⟩
        · exact .inr (.inr hlt)
      clear hgo
      by_cases hm : 2147483647 < v
      · have hr : Hid (LX.numR 10 2147483647 (f - k) (tl s f) = .bad 22) := by
          apply num_bad; rw [← HP.out]; rcases HV.out with h | h <;> omega
        rcases hcond with ⟨hlt, hd⟩ | ⟨hlt, hd, hd2⟩ | hlt
        all_goals
          go_wp2_with (first | (go_at_call 49; refine (refNib_c _ _).mono ?_; rintro e w' ⟨rfl, rfl⟩))
          exact bodyPost_ret (v := .tuple #[.agg #[.int .i64 0, .string ⟨#[]⟩, .int .i64 0, .int .i64 0], .int .i64 (k : Int), .int .i64 22]) (by simp [results, Try.results48, go_sem]) rfl ⟨.bad hr.out rfl rfl, (Below.refl _ _).alloc (Nat.le_refl _) _⟩
      · have hvv : Hid ((LX.val 10 (LX.digs 10 (tl s f)) : Int) = v) := by show _ = _; rw [← HP.out]; rcases HV.out with h | h <;> omega
        have hr : Hid (LX.numR 10 2147483647 (f - k) (tl s f) = .good 2 [] (LX.w32 (LX.val 10 (LX.digs 10 (tl s f)))) (f - k + (LX.digs 10 (tl s f)).length)) := by
          apply num_good; have := hvv.out; omega
        have hdl : Hid ((LX.digs 10 (tl s f)).length = dl 10 s f) := rfl
        rcases hcond with ⟨hlt, hd⟩ | ⟨hlt, hd, hd2⟩ | hlt
        all_goals
          go_wp2_with (first | (go_at_call 49; refine (refNib_c _ _).mono ?_; rintro e w' ⟨rfl, rfl⟩))
          exact bodyPost_ret (v := .tuple #[.agg #[.int .i64 2, .string ⟨#[]⟩, .int .i64 (v), .int .i64 (k : Int)], .int .i64 (j : Int), .int .i64 0]) (by simp [results, Try.results48, go_sem]) rfl ⟨.good hr.out rfl rfl (by have := hvv.out; unfold LX.w32; split <;> omega) (by have := hz.out; have := hdl.out; omega), (Below.refl _ _).alloc (Nat.le_refl _) _⟩

set_option maxHeartbeats 1000000 in
theorem refNum16_c (s : ByteArray) (k f : Nat) (w : World) (hs : s.size ≤ 1000000) (hk : k ≤ f) (hf : f ≤ s.size) :
    Calls Try.prog 48 #[.string s, .int .i64 (k : Nat), .int .i64 (f : Nat), .int .i64 16, .int .i64 4294967295] w fun e w' => TokR (LX.numR 16 4294967295 (f - k) (tl s f)) k e ∧ Below w.heap.size w w' := by
  go_enter Try.func48, Try.ntmps48
  go_wp2
  go_loop [13, 14] (fun n i => ∃ (j : Nat) (v : Int), f ≤ j ∧ j ≤ s.size ∧ i = .int .i64 j ∧ n = .int .i64 v ∧ Hid (j + dl 16 s j = f + dl 16 s f) ∧ NR 4294967295 (pv 16 s f j) v) (fun _ i => s.size - (intOf i).toNat)
  case atStart => exact ⟨f, 0, Nat.le_refl _, hf, rfl, rfl, (show Hid _ from (rfl : f + dl 16 s f = _)), .inl ⟨by rw [pv_zero]; omega, by rw [pv_zero]; rfl⟩⟩
  case round =>
    obtain ⟨j, v, hj1, hj2, rfl, rfl, hq, hv⟩ := hrel
    have hvb := hv.bd
    have HV := Lib.hid hv
    clear hv
    obtain ⟨hv1, hv2⟩ := hvb
    by_cases hgo : ∃ hlt : j < s.size, LX.nib s[j] < 16
    · obtain ⟨hlt, hd⟩ := hgo
      have hni := nibI_val (c := s[j]) (by omega)
      have hd0 : 0 ≤ nibI s[j] := by omega
      have hd1 : nibI s[j] < 16 := by omega
      have HN := Lib.hid hni
      have hq2 : Hid (j + 1 + dl 16 s (j + 1) = f + dl 16 s f) := by
        show _ = _
        have := dl_step 16 s j hlt hd
        have := hq.out; omega
      have hps := pv_step 16 s f j hj1 hlt
      by_cases hm : v ≤ 4294967295
      · have hv' := HV.out.go (by omega) 16 (LX.nib s[j]) (by omega) hd
        rw [← hps, ← hni] at hv'
        have HV' := Lib.hid hv'
        clear hps hni hv' HV hd
        go_wp2_with (first | (go_at_call 49; refine (refNib_c _ _).mono ?_; rintro e w' ⟨rfl, rfl⟩))
        go_round
        case rel => exact ⟨j + 1, _, by omega, by omega, by go_num, rfl, hq2, HV'.out⟩
        case measure => simp [intOf]; omega
      · have hv' := HV.out.stay (by omega) 16 (LX.nib s[j]) (by omega)
        rw [← hps] at hv'
        have HV' := Lib.hid hv'
        clear hps hni hv' HV hd
        go_wp2_with (first | (go_at_call 49; refine (refNib_c _ _).mono ?_; rintro e w' ⟨rfl, rfl⟩))
        go_round
        case rel => exact ⟨j + 1, _, by omega, by omega, by go_num, rfl, hq2, HV'.out⟩
        case measure => simp [intOf]; omega
    · have hz : Hid (j = f + dl 16 s f) := by
        show _ = _
        have h1 := hq.out
        by_cases hlt : j < s.size
        · have := dl_stop 16 s j hlt (fun h => hgo ⟨hlt, h⟩); omega
        · have := dl_nil 16 s j (by omega); omega
      have HP : Hid (pv 16 s f j = LX.val 16 (LX.digs 16 (tl s f))) := pv_all 16 s f j hz.out
      have hcond : (∃ hlt : j < s.size, nibI s[j] < 0) ∨ (∃ hlt : j < s.size, 0 ≤ nibI s[j] ∧ 16 ≤ nibI s[j]) ∨ ¬ j < s.size := by
        by_cases hlt : j < s.size
        · have h1 : ¬ LX.nib s[j] < 16 := fun h => hgo ⟨hlt, h⟩
          by_cases h2 : LX.nib s[j] = 16
          · left; exact ⟨hlt, by rw [nibI_neg h2]; omega⟩
          · right; left; exact ⟨hlt, by rw [nibI_val h2]; omega, by rw [nibI_val h2]; omega⟩
        · exact .inr (.inr hlt)
      clear hgo
      by_cases hm : 4294967295 < v
      · have hr : Hid (LX.numR 16 4294967295 (f - k) (tl s f) = .bad 22) := by
          apply num_bad; rw [← HP.out]; rcases HV.out with h | h <;> omega
        rcases hcond with ⟨hlt, hd⟩ | ⟨hlt, hd, hd2⟩ | hlt
        all_goals
          go_wp2_with (first | (go_at_call 49; refine (refNib_c _ _).mono ?_; rintro e w' ⟨rfl, rfl⟩))
          exact bodyPost_ret (v := .tuple #[.agg #[.int .i64 0, .string ⟨#[]⟩, .int .i64 0, .int .i64 0], .int .i64 (k : Int), .int .i64 22]) (by simp [results, Try.results48, go_sem]) rfl ⟨.bad hr.out rfl rfl, (Below.refl _ _).alloc (Nat.le_refl _) _⟩
      · have hvv : Hid ((LX.val 16 (LX.digs 16 (tl s f)) : Int) = v) := by show _ = _; rw [← HP.out]; rcases HV.out with h | h <;> omega
        have hr : Hid (LX.numR 16 4294967295 (f - k) (tl s f) = .good 2 [] (LX.w32 (LX.val 16 (LX.digs 16 (tl s f)))) (f - k + (LX.digs 16 (tl s f)).length)) := by
          apply num_good; have := hvv.out; omega
        have hdl : Hid ((LX.digs 16 (tl s f)).length = dl 16 s f) := rfl
        by_cases hbig : 2147483648 ≤ v
        · rcases hcond with ⟨hlt, hd⟩ | ⟨hlt, hd, hd2⟩ | hlt
          all_goals
            go_wp2_with (first | (go_at_call 49; refine (refNib_c _ _).mono ?_; rintro e w' ⟨rfl, rfl⟩))
            exact bodyPost_ret (v := .tuple #[.agg #[.int .i64 2, .string ⟨#[]⟩, .int .i64 (v - 4294967296), .int .i64 (k : Int)], .int .i64 (j : Int), .int .i64 0]) (by simp [results, Try.results48, go_sem]) rfl ⟨.good hr.out rfl rfl (by have := hvv.out; unfold LX.w32; split <;> omega) (by have := hz.out; have := hdl.out; omega), (Below.refl _ _).alloc (Nat.le_refl _) _⟩
        · rcases hcond with ⟨hlt, hd⟩ | ⟨hlt, hd, hd2⟩ | hlt
          all_goals
            go_wp2_with (first | (go_at_call 49; refine (refNib_c _ _).mono ?_; rintro e w' ⟨rfl, rfl⟩))
            exact bodyPost_ret (v := .tuple #[.agg #[.int .i64 2, .string ⟨#[]⟩, .int .i64 (v), .int .i64 (k : Int)], .int .i64 (j : Int), .int .i64 0]) (by simp [results, Try.results48, go_sem]) rfl ⟨.good hr.out rfl rfl (by have := hvv.out; unfold LX.w32; split <;> omega) (by have := hz.out; have := hdl.out; omega), (Below.refl _ _).alloc (Nat.le_refl _) _⟩
end Go.Proofs.Ytpcepfoebkmbgaa
