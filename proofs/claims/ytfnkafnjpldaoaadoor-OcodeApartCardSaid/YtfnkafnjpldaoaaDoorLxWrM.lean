/- Plain mathematics of writing tokens: quoted strings, numbers, words, signs; what a scan makes of what was written. No program is named here. -/
import Derived.Test.YtfnkafnjpldaoaaDoorLxLawM
import Derived.Lib.ItoaNum
namespace Go.Proofs.YtfnkafnjpldaoaaDoor.LX
set_option linter.unusedVariables false
/-! strings -/
def qc (c : UInt8) : Bs := if c.toNat = 10 then [42, 110] else if c.toNat = 9 then [42, 116] else if c.toNat = 42 ∨ c.toNat = 34 then [42, c] else [c]
def okq (c : UInt8) : Bool := plain c || decide (c.toNat = 10) || decide (c.toNat = 9)
def qbody (l : Bs) : Bs := l.flatMap qc
def quote (l : Bs) : Bs := 34 :: (qbody l ++ [34])
theorem u8_of {c : UInt8} {n : Nat} (h : c.toNat = n) : c = UInt8.ofNat n := by subst h; simp
theorem qc_len (c : UInt8) : 1 ≤ (qc c).length ∧ (qc c).length ≤ 2 := by
  unfold qc; split
  · exact ⟨by decide, by decide⟩
  · split
    · exact ⟨by decide, by decide⟩
    · split
      · exact ⟨by simp, by simp⟩
      · exact ⟨by simp, by simp⟩
theorem qbody_len (l : Bs) : l.length ≤ (qbody l).length ∧ (qbody l).length ≤ 2 * l.length := by
  induction l with
  | nil => simp [qbody]
  | cons c r ih =>
    have h := qc_len c
    unfold qbody at ih ⊢
    rw [List.flatMap_cons, List.length_append, List.length_cons]
    omega
theorem esc_self {c : UInt8} (h : c.toNat = 42 ∨ c.toNat = 34) : esc c = some c := by
  unfold esc
  rw [if_neg (by omega), if_neg (by omega), if_neg (by omega), if_pos (by omega)]
theorem strG_qc (c : UInt8) (h : okq c = true) (r : Bs) : strG false (qc c ++ r) = (strG false r).map (fun x => (c :: x.1, x.2 + (qc c).length)) := by
  unfold qc
  split
  · rename_i h1
    rw [u8_of h1]
    show (((strG false r).map _).map _) = _
    cases strG false r <;> rfl
  · split
    · rename_i h1
      rw [u8_of h1]
      show (((strG false r).map _).map _) = _
      cases strG false r <;> rfl
    · split
      · rename_i h1
        simp only [List.cons_append, List.nil_append, strG, esc_self h1]
        cases strG false r <;> rfl
      · rename_i h1 h2 h3
        have hp : plain c = true := by simp [okq] at h; simp [h1, h2] at h; exact h
        simp only [List.cons_append, List.nil_append, strG]
        rw [if_neg (by omega), if_neg (by omega), if_pos hp]
        rfl
theorem strG_qbody (l r : Bs) (h : l.all okq = true) : strG false (qbody l ++ 34 :: r) = some (l, (qbody l).length + 1) := by
  induction l with
  | nil => rfl
  | cons c l ih =>
    rw [List.all_cons, Bool.and_eq_true] at h
    have e : qbody (c :: l) ++ 34 :: r = qc c ++ (qbody l ++ 34 :: r) := by simp [qbody]
    rw [e, strG_qc c h.1, ih h.2]
    simp [qbody]; omega
/-! digits -/
def hexc (d : Nat) : UInt8 := if d < 10 then UInt8.ofNat (48 + d) else UInt8.ofNat (87 + d)
def dig (b n : Nat) : Bs := if h : n < b ∨ b < 2 then [hexc n] else dig b (n / b) ++ [hexc (n % b)]
termination_by n
decreasing_by
  have h1 : ¬ n < b := fun x => h (.inl x)
  have h2 : ¬ b < 2 := fun x => h (.inr x)
  exact Nat.div_lt_self (by omega) (by omega)
theorem dig_small {b n : Nat} (h : n < b) : dig b n = [hexc n] := by rw [dig, dif_pos (.inl h)]
theorem dig_big {b n : Nat} (h : ¬ n < b) (hb : 2 ≤ b) : dig b n = dig b (n / b) ++ [hexc (n % b)] := by rw [dig, dif_neg (by omega)]
theorem dig_dec (n : Nat) : Lib.decDigits n = dig 10 n := by
  induction n using Nat.strongRecOn with
  | _ n ih =>
    by_cases h : n < 10
    · rw [Lib.decDigits, dif_pos h, dig_small h]; simp [hexc, h]
    · rw [Lib.decDigits, dif_neg h, dig_big h (by decide), ih (n / 10) (by omega)]
      have : n % 10 < 10 := by omega
      simp [hexc, this]
theorem nib_hexc {d : Nat} (h : d < 16) : nib (hexc d) = d := by
  have : ∀ d : Fin 16, nib (hexc d.val) = d.val := by decide
  exact this ⟨d, h⟩
theorem hexc_dig {d : Nat} (h : d < 10) : isDig (hexc d) = true := by
  have : ∀ d : Fin 10, isDig (hexc d.val) = true := by decide
  exact this ⟨d, h⟩
theorem dig_all {b : Nat} (hb : 2 ≤ b) (hc : b ≤ 16) (n : Nat) : ∀ c ∈ dig b n, nib c < b := by
  induction n using Nat.strongRecOn with
  | _ n ih =>
    by_cases h : n < b
    · rw [dig_small h]; intro c hc'; simp at hc'; subst hc'; rw [nib_hexc (by omega)]; exact h
    · rw [dig_big h hb]
      intro c hc'
      rw [List.mem_append] at hc'
      rcases hc' with h1 | h1
      · exact ih (n / b) (Nat.div_lt_self (by omega) (by omega)) c h1
      · simp at h1; subst h1
        have := Nat.mod_lt n (show 0 < b by omega)
        rw [nib_hexc (by omega)]; exact this
theorem dig_ten (n : Nat) : ∀ c ∈ dig 10 n, isDig c = true := by
  induction n using Nat.strongRecOn with
  | _ n ih =>
    by_cases h : n < 10
    · rw [dig_small h]; intro c hc'; simp at hc'; subst hc'; exact hexc_dig h
    · rw [dig_big h (by decide)]
      intro c hc'
      rw [List.mem_append] at hc'
      rcases hc' with h1 | h1
      · exact ih (n / 10) (by omega) c h1
      · simp at h1; subst h1; exact hexc_dig (by omega)
theorem dig_ne (b n : Nat) : dig b n ≠ [] := by
  rw [dig]; split <;> simp
theorem val_snoc (b : Nat) (l : Bs) (c : UInt8) : val b (l ++ [c]) = val b l * b + nib c := by
  unfold val; rw [List.foldl_append]; rfl
theorem val_dig {b : Nat} (hb : 2 ≤ b) (hc : b ≤ 16) (n : Nat) : val b (dig b n) = n := by
  induction n using Nat.strongRecOn with
  | _ n ih =>
    by_cases h : n < b
    · rw [dig_small h]; simp [val, nib_hexc (show n < 16 by omega)]
    · have := Nat.mod_lt n (show 0 < b by omega)
      rw [dig_big h hb, val_snoc, ih (n / b) (Nat.div_lt_self (by omega) (by omega)), nib_hexc (by omega)]
      have := Nat.div_add_mod n b
      rw [Nat.mul_comm] at this; exact this
theorem takeWhile_all {p : UInt8 → Bool} {a q : Bs} (h : ∀ c ∈ a, p c = true) (hq : q = [] ∨ ∃ c r, q = c :: r ∧ p c = false) : (a ++ q).takeWhile p = a := by
  induction a with
  | nil =>
    rcases hq with rfl | ⟨c, r, rfl, hc⟩
    · rfl
    · rw [List.nil_append, List.takeWhile_cons, hc]; rfl
  | cons c a ih =>
    rw [List.cons_append, List.takeWhile_cons, h c (by simp), if_pos rfl, ih (fun d hd => h d (by simp [hd]))]
theorem brk_no {p : UInt8 → Bool} (h32 : p 32 = false) (h9 : p 9 = false) (h10 : p 10 = false) {q : Bs} (h : brk q) : q = [] ∨ ∃ c r, q = c :: r ∧ p c = false := by
  rcases h with h | ⟨c, r, h, hc⟩
  · exact .inl h
  · refine .inr ⟨c, r, h, ?_⟩
    rcases hc with rfl | rfl | rfl <;> assumption
theorem digs_dig {b : Nat} (hb : 2 ≤ b) (hc : b ≤ 16) (n : Nat) {q : Bs} (h : brk q) : digs b (dig b n ++ q) = dig b n := by
  unfold digs
  have hn := nib_brk b hc
  exact takeWhile_all (fun c h' => by have := dig_all hb hc n c h'; simpa using this) (brk_no hn.1 hn.2.1 hn.2.2 h)
/-- how a number is written -/
def numW (n : Int) : Bs := if n < 0 then 35 :: dig 16 (n + 4294967296).toNat else dig 10 n.toNat
/-! what is written is scanned -/
/-- w is written: with a blank or the end behind it, it is this token -/
def Wr (k : Nat) (s : Bs) (n : Int) (w : Bs) : Prop :=
  ∀ q, brk q → skipG false (w ++ q) = 0 ∧ ∃ c r, w = c :: r ∧ tok c (r ++ q) = .good k s n w.length
theorem skip0 {c : UInt8} {r : Bs} (h : ¬ (c.toNat = 32 ∨ c.toNat = 9 ∨ c.toNat = 10)) (h2 : ¬ c.toNat = 47) : skipG false (c :: r) = 0 := by
  simp only [skipG]; rw [if_neg h, if_neg (by omega)]
theorem small_ne {c : UInt8} (h : small c = true) : 97 ≤ c.toNat ∧ c.toNat ≤ 122 := by simpa [small] using h
theorem isDig_ne {c : UInt8} (h : isDig c = true) : 48 ≤ c.toNat ∧ c.toNat ≤ 57 := by simpa [isDig] using h
theorem wr_quote {l : Bs} (h : l.all okq = true) (hl : l.length ≤ 100) : Wr 3 l 0 (quote l) := by
  intro q hq
  refine ⟨by simp only [quote, List.cons_append]; exact skip0 (by decide) (by decide), 34, qbody l ++ [34], rfl, ?_⟩
  have e : qbody l ++ [34] ++ q = qbody l ++ 34 :: q := by simp
  rw [e]
  unfold tok
  rw [if_neg (by decide), if_neg (by decide), if_neg (by decide), if_neg (by decide), if_pos (by decide)]
  unfold textR
  rw [strG_qbody l q h]
  simp only
  rw [if_neg (by omega)]
  simp [quote]
theorem wr_num {n : Int} (h0 : -2147483648 ≤ n) (h1 : n ≤ 2147483647) : Wr 2 [] n (numW n) := by
  intro q hq
  unfold numW
  by_cases hn : n < 0
  · rw [if_pos hn]
    generalize hu : (n + 4294967296).toNat = u
    have hu1 : 2147483648 ≤ u ∧ u ≤ 4294967295 := by omega
    refine ⟨skip0 (by decide) (by decide), 35, dig 16 u, rfl, ?_⟩
    unfold tok
    rw [if_neg (by decide), if_neg (by decide), if_pos (by decide)]
    have hd := digs_dig (b := 16) (by decide) (by decide) u hq
    have hv := val_dig (b := 16) (by decide) (by decide) u
    cases hx : dig 16 u with
    | nil => exact absurd hx (dig_ne _ _)
    | cons c r =>
      rw [hx] at hd hv
      have hc := dig_all (b := 16) (by decide) (by decide) u c (by rw [hx]; simp)
      simp only [List.cons_append, hexR]
      rw [if_pos hc]
      unfold numR
      rw [List.cons_append] at hd
      rw [hd, hv, if_neg (by omega)]
      have hw : w32 u = n := by unfold w32; rw [if_pos hu1.1]; omega
      rw [hw]
      simp; omega
  · rw [if_neg hn]
    generalize hu : n.toNat = u
    have hu1 : u ≤ 2147483647 := by omega
    have hd := digs_dig (b := 10) (by decide) (by decide) u hq
    have hv := val_dig (b := 10) (by decide) (by decide) u
    cases hx : dig 10 u with
    | nil => exact absurd hx (dig_ne _ _)
    | cons c r =>
      rw [hx] at hd hv
      have hc := isDig_ne (dig_ten u c (by rw [hx]; simp))
      refine ⟨by rw [List.cons_append]; exact skip0 (by omega) (by omega), c, r, rfl, ?_⟩
      unfold tok
      rw [if_neg (by simp [small]; omega), if_pos (by simp [isDig]; omega)]
      unfold numR
      rw [List.cons_append] at hd
      rw [hd, hv, if_neg (by omega)]
      have hw : w32 u = n := by unfold w32; rw [if_neg (by omega)]; omega
      rw [hw]
      simp
theorem isWordB_parts {s : Bs} (h : isWordB s = true) : ∃ c r, s = c :: r ∧ small c = true ∧ (∀ d ∈ c :: r, part d = true) ∧ s.length ≤ 24 := by
  cases s with
  | nil => simp [isWordB] at h
  | cons c r =>
    simp only [isWordB, Bool.and_eq_true, decide_eq_true_eq, List.all_eq_true] at h
    exact ⟨c, r, rfl, h.1.2, h.2, h.1.1⟩
theorem wr_word {s : Bs} (h : isWordB s = true) : (s ∉ keyL → Wr 1 s 0 s) ∧ (s ∈ keyL → Wr 4 s 0 s) := by
  obtain ⟨c, r, rfl, hc, hp, hl⟩ := isWordB_parts h
  have hs := small_ne hc
  have key : ∀ q, brk q → skipG false ((c :: r) ++ q) = 0 ∧ tok c (r ++ q) = if (c :: r) ∈ keyL then .good 4 (c :: r) 0 (c :: r).length else .good 1 (c :: r) 0 (c :: r).length := by
    intro q hq
    refine ⟨by rw [List.cons_append]; exact skip0 (by omega) (by omega), ?_⟩
    have ht : (c :: (r ++ q)).takeWhile part = c :: r := by
      have := takeWhile_all (p := part) (a := c :: r) (q := q) hp (brk_no part_brk.1 part_brk.2.1 part_brk.2.2 hq)
      rwa [List.cons_append] at this
    unfold tok
    rw [if_pos hc]
    unfold wordR
    rw [ht, if_neg (by omega)]
  refine ⟨fun hk q hq => ?_, fun hk q hq => ?_⟩
  · obtain ⟨h1, h2⟩ := key q hq
    rw [if_neg hk] at h2
    exact ⟨h1, c, r, rfl, h2⟩
  · obtain ⟨h1, h2⟩ := key q hq
    rw [if_pos hk] at h2
    exact ⟨h1, c, r, rfl, h2⟩
theorem keyL_word : ∀ s ∈ keyL, isWordB s = true := by decide +kernel
theorem signL_head : ∀ s ∈ signL, ∃ c r, s = c :: r ∧ small c = false ∧ isDig c = false ∧ ¬ c.toNat = 35 ∧ ¬ c.toNat = 39 ∧ ¬ c.toNat = 34 ∧ ¬ (c.toNat = 32 ∨ c.toNat = 9 ∨ c.toNat = 10) ∧ (c.toNat = 47 → r = []) ∧ r.length ≤ 1 := by
  have h : ∀ s ∈ signL, s ≠ [] ∧ small (s.headD 0) = false ∧ isDig (s.headD 0) = false ∧ ¬ (s.headD 0).toNat = 35 ∧ ¬ (s.headD 0).toNat = 39 ∧ ¬ (s.headD 0).toNat = 34 ∧ ¬ ((s.headD 0).toNat = 32 ∨ (s.headD 0).toNat = 9 ∨ (s.headD 0).toNat = 10) ∧ ((s.headD 0).toNat = 47 → s.tail = []) ∧ s.tail.length ≤ 1 := by decide +kernel
  intro s hs
  have := h s hs
  cases s with
  | nil => exact absurd rfl this.1
  | cons c r => exact ⟨c, r, rfl, this.2⟩
theorem wr_sign {s : Bs} (h : s ∈ signL) : Wr 5 s 0 s := by
  intro q hq
  obtain ⟨c, r, rfl, h1, h2, h3, h4, h5, h6, h7, h8⟩ := signL_head s h
  refine ⟨?_, c, r, rfl, ?_⟩
  · rw [List.cons_append]
    simp only [skipG]
    rw [if_neg h6, if_neg]
    rintro ⟨h9, h10⟩
    rw [h7 h9, List.nil_append] at h10
    rcases hq with rfl | ⟨d, x, rfl, hd⟩
    · cases h10
    · simp at h10; subst h10; simp at hd
  · unfold tok
    rw [if_neg (by simp [h1]), if_neg (by simp [h2]), if_neg h3, if_neg h4, if_neg h5]
    unfold signR
    cases r with
    | cons d r' =>
      have : r' = [] := by cases r' with | nil => rfl | cons _ _ => simp at h8
      subst this
      have e : (c :: ([d] ++ q)).take 2 = [c, d] := rfl
      rw [e, if_pos h]
    | nil =>
      rw [List.nil_append]
      rcases hq with rfl | ⟨d, x, rfl, hd⟩
      · have e : ([c] : Bs).take 2 = [c] := rfl
        rw [e, if_pos h]
      · have e : (c :: d :: x).take 2 = [c, d] := rfl
        have e1 : (c :: d :: x).take 1 = [c] := rfl
        have hb := signL_brk c
        have hn : [c, d] ∉ signL := by
          rcases hd with rfl | rfl | rfl
          · exact hb.1
          · exact hb.2.1
          · exact hb.2.2
        rw [e, if_neg hn, e1, if_pos h]
        rfl
theorem Wr.raw {k : Nat} {s : Bs} {n : Int} {w q : Bs} (h : Wr k s n w) (hq : brk q) (a : Nat) :
    raw a (w ++ q) = (⟨k, s, n, a⟩ :: (raw (a + w.length) q).1, (raw (a + w.length) q).2) := by
  obtain ⟨h1, c, r, rfl, h2⟩ := h q hq
  have h3 := raw_good (at_ := a) (l := c :: r ++ q) (c := c) (r := r ++ q) (by rw [h1]; rfl) h2
  rw [h1] at h3
  rw [h3]
  simp only [Nat.add_zero]
  have e : (c :: (r ++ q)).drop (c :: r).length = q := by
    rw [show c :: (r ++ q) = (c :: r) ++ q from rfl, List.drop_left]
  rw [e]
theorem brk_nil : brk [] := .inl rfl
theorem raw_nil (a : Nat) : raw a [] = ([], none) := raw_end (by rfl)
theorem Wr.scan {k : Nat} {s : Bs} {n : Int} {w : Bs} (h : Wr k s n w) (hw : w.length ≤ 40000) : scan w = .good [⟨k, s, n, 0⟩, ⟨0, [], 0, w.length⟩] := by
  have h1 := h.raw brk_nil 0
  rw [List.append_nil, raw_nil] at h1
  have := scan_of_raw hw h1 (by simp)
  simpa using this
theorem raw_blank (a : Nat) (l : Bs) : raw a (32 :: l) = raw (a + 1) l := by
  have e : skipG false (32 :: l) = skipG false l + 1 := by simp [skipG]
  rw [raw_eq, raw_eq (a + 1) l, e]
  have e2 : (32 :: l).drop (skipG false l + 1) = l.drop (skipG false l) := rfl
  rw [e2]
  have e3 : a + (skipG false l + 1) = a + 1 + skipG false l := by omega
  rw [e3]
end Go.Proofs.YtfnkafnjpldaoaaDoor.LX
