/- Plain mathematics of texts: what the text of tokens is, and that it is scanned to these tokens. No program is named here. -/
import Derived.Test.YtpcepfoebkmbgaaDoorLxWrM
namespace Go.Proofs.YtpcepfoebkmbgaaDoor.LX
set_option linter.unusedVariables false
/-- a token that came in: its kind and its place are any numbers -/
structure ATok where
  kind : Int
  s : Bs
  n : Int
  pos : Int
deriving DecidableEq
/-- how a token is written; none: a scan never makes it -/
def wrt (t : ATok) : Option Bs :=
  if t.kind = 1 then (if isNameB t.s = true ∧ t.n = 0 then some t.s else none)
  else if t.kind = 4 then (if t.s ∈ keyL ∧ t.n = 0 then some t.s else none)
  else if t.kind = 5 then (if t.s ∈ signL ∧ t.n = 0 then some t.s else none)
  else if t.kind = 2 then (if -2147483648 ≤ t.n ∧ t.n ≤ 2147483647 ∧ t.s = [] then some (numW t.n) else none)
  else if t.kind = 3 then (if t.s.all okq = true ∧ t.s.length ≤ 100 ∧ t.n = 0 then some (quote t.s) else none)
  else none
theorem dig_len10 (n : Nat) (h : n ≤ 2147483647) : (dig 10 n).length ≤ 10 := by
  have key : ∀ k n, n < 10 ^ k → 1 ≤ k → (dig 10 n).length ≤ k := by
    intro k
    induction k with
    | zero => intro n _ h; omega
    | succ k ih =>
      intro n hn _
      by_cases h : n < 10
      · rw [dig_small h]; simp
      · rw [dig_big h (by decide), List.length_append]
        have hk : 1 ≤ k := by
          rcases Nat.eq_zero_or_pos k with rfl | h0
          · simp at hn; omega
          · exact h0
        have := ih (n / 10) (by rw [Nat.pow_succ] at hn; omega) hk
        simp; omega
  exact key 10 n (by omega) (by decide)
theorem dig_len16 (n : Nat) (h : n ≤ 4294967295) : (dig 16 n).length ≤ 8 := by
  have key : ∀ k n, n < 16 ^ k → 1 ≤ k → (dig 16 n).length ≤ k := by
    intro k
    induction k with
    | zero => intro n _ h; omega
    | succ k ih =>
      intro n hn _
      by_cases h : n < 16
      · rw [dig_small h]; simp
      · rw [dig_big h (by decide), List.length_append]
        have hk : 1 ≤ k := by
          rcases Nat.eq_zero_or_pos k with rfl | h0
          · simp at hn; omega
          · exact h0
        have := ih (n / 16) (by rw [Nat.pow_succ] at hn; omega) hk
        simp; omega
  exact key 8 n (by omega) (by decide)
theorem dig16_full (n : Nat) (h0 : 268435456 ≤ n) (h : n ≤ 4294967295) : (dig 16 n).length = 8 := by
  have key : ∀ k n, 16 ^ k ≤ n → k + 1 ≤ (dig 16 n).length := by
    intro k
    induction k with
    | zero => intro n _; have := dig_ne 16 n; cases hx : dig 16 n with | nil => exact absurd hx this | cons _ _ => simp
    | succ k ih =>
      intro n hn
      have h1 : 1 ≤ 16 ^ k := Nat.one_le_pow _ _ (by decide)
      rw [Nat.pow_succ] at hn
      have h : ¬ n < 16 := by omega
      rw [dig_big h (by decide), List.length_append]
      have := ih (n / 16) (by omega)
      simp; omega
  have h1 := key 7 n (by omega)
  have h2 := dig_len16 n h
  omega
theorem numW_len {n : Int} (h0 : -2147483648 ≤ n) (h1 : n ≤ 2147483647) : 1 ≤ (numW n).length ∧ (numW n).length ≤ 10 := by
  unfold numW
  split
  · have := dig_len16 (n + 4294967296).toNat (by omega)
    simp; omega
  · refine ⟨?_, dig_len10 _ (by omega)⟩
    have := dig_ne 10 n.toNat
    cases hx : dig 10 n.toNat with
    | nil => exact absurd hx this
    | cons _ _ => simp
theorem quote_len (l : Bs) : (quote l).length ≤ 2 * l.length + 2 := by
  have := (qbody_len l).2
  simp [quote]; omega
theorem keyL_len : ∀ s ∈ keyL, s.length ≤ 24 := by decide +kernel
theorem isNameB_parts {s : Bs} (h : isNameB s = true) : isWordB s = true ∧ s ∉ keyL := by
  unfold isNameB at h
  rw [Bool.and_eq_true, decide_eq_true_eq] at h
  exact h
theorem wrt_len {t : ATok} {w : Bs} (h : wrt t = some w) : w.length ≤ 202 := by
  unfold wrt at h
  split at h
  · split at h
    · rename_i h1; injection h with h; subst h
      obtain ⟨c, r, e, _, _, hl⟩ := isWordB_parts (isNameB_parts h1.1).1
      omega
    · cases h
  · split at h
    · split at h
      · rename_i h1; injection h with h; subst h
        have := keyL_len _ h1.1; omega
      · cases h
    · split at h
      · split at h
        · rename_i h1; injection h with h; subst h
          have := signL_len _ h1.1; omega
        · cases h
      · split at h
        · split at h
          · rename_i h1; injection h with h; subst h
            have := numW_len h1.1 h1.2.1; omega
          · cases h
        · split at h
          · split at h
            · rename_i h1; injection h with h; subst h
              have := quote_len t.s; omega
            · cases h
          · cases h
theorem wrt_wr {t : ATok} {w : Bs} (h : wrt t = some w) : ∃ k : Nat, t.kind = k ∧ Wr k t.s t.n w := by
  unfold wrt at h
  split at h
  · rename_i hk
    split at h
    · rename_i h1; injection h with h; subst h
      have hp := isNameB_parts h1.1
      exact ⟨1, hk, h1.2 ▸ (wr_word hp.1).1 hp.2⟩
    · cases h
  · split at h
    · rename_i hk
      split at h
      · rename_i h1; injection h with h; subst h
        exact ⟨4, hk, h1.2 ▸ (wr_word (keyL_word _ h1.1)).2 h1.1⟩
      · cases h
    · split at h
      · rename_i hk
        split at h
        · rename_i h1; injection h with h; subst h
          exact ⟨5, hk, h1.2 ▸ wr_sign h1.1⟩
        · cases h
      · split at h
        · rename_i hk
          split at h
          · rename_i h1; injection h with h; subst h
            exact ⟨2, hk, h1.2.2 ▸ wr_num h1.1 h1.2.1⟩
          · cases h
        · split at h
          · rename_i hk
            split at h
            · rename_i h1; injection h with h; subst h
              exact ⟨3, hk, h1.2.2 ▸ wr_quote h1.1 h1.2.1⟩
            · cases h
          · cases h
/-- how many tokens there are ahead of the end -/
def count : List ATok → Nat
  | [] => 0
  | t :: l => if t.kind = 0 then 0 else count l + 1
theorem count_le (l : List ATok) : count l ≤ l.length := by
  induction l with
  | nil => simp [count]
  | cons t l ih => simp only [count]; split <;> simp; omega
/-- the text of tokens, st: something has been written; none: there is a token that a scan never makes -/
def text : Bool → List ATok → Option Bs
  | _, [] => some []
  | st, t :: l =>
    if t.kind = 0 then (if t.s = [] ∧ t.n = 0 then some [] else none)
    else match wrt t with
      | none => none
      | some w => (text true l).map (fun r => (if st = true then [32] else []) ++ w ++ r)
theorem text_len (l : List ATok) : ∀ st x, text st l = some x → x.length ≤ 203 * l.length := by
  induction l with
  | nil => intro st x h; simp [text] at h; subst h; simp
  | cons t l ih =>
    intro st x h
    simp only [text] at h
    split at h
    · split at h
      · injection h with h; subst h; simp
      · cases h
    · split at h
      · cases h
      · rename_i w hw
        simp only [Option.map_eq_some_iff] at h
        obtain ⟨r, hr, rfl⟩ := h
        have h1 := ih true r hr
        have h2 := wrt_len hw
        simp only [List.length_append, List.length_cons]
        split <;> simp <;> omega
theorem text_brk {l : List ATok} {x : Bs} (h : text true l = some x) : brk x := by
  cases l with
  | nil => simp [text] at h; subst h; exact brk_nil
  | cons t l =>
    simp only [text] at h
    split at h
    · split at h
      · injection h with h; subst h; exact brk_nil
      · cases h
    · split at h
      · cases h
      · rename_i w hw
        simp only [Option.map_eq_some_iff] at h
        obtain ⟨r, hr, rfl⟩ := h
        exact .inr ⟨32, w ++ r, by simp, .inl rfl⟩
/-- tokens read back: alike but for their places -/
def Same (ts : List Tok) (l : List ATok) : Prop := ts.length = count l ∧ ∀ i, i < ts.length → ((ts.getD i ⟨0, [], 0, 0⟩).kind : Int) = (l.getD i ⟨0, [], 0, 0⟩).kind ∧ (ts.getD i ⟨0, [], 0, 0⟩).s = (l.getD i ⟨0, [], 0, 0⟩).s ∧ (ts.getD i ⟨0, [], 0, 0⟩).n = (l.getD i ⟨0, [], 0, 0⟩).n
theorem text_raw (l : List ATok) : ∀ st x a, text st l = some x → ∃ ts, raw a x = (ts, none) ∧ Same ts l := by
  induction l with
  | nil => intro st x a h; simp [text] at h; subst h; exact ⟨[], raw_nil a, rfl, fun i hi => by simp at hi⟩
  | cons t l ih =>
    intro st x a h
    simp only [text] at h
    split at h
    · rename_i h0
      split at h
      · injection h with h; subst h; exact ⟨[], raw_nil a, by simp [count, h0], fun i hi => by simp at hi⟩
      · cases h
    · rename_i h0
      split at h
      · cases h
      · rename_i w hw
        simp only [Option.map_eq_some_iff] at h
        obtain ⟨r, hr, rfl⟩ := h
        obtain ⟨k, hk, hwr⟩ := wrt_wr hw
        have hb := text_brk hr
        have step : ∀ b, ∃ ts, raw b (w ++ r) = (ts, none) ∧ Same ts (t :: l) := by
          intro b
          obtain ⟨ts, h1, h2, h3⟩ := ih true r (b + w.length) hr
          refine ⟨⟨k, t.s, t.n, b⟩ :: ts, ?_, by simp [count, h0, h2], ?_⟩
          · rw [hwr.raw hb b, h1]
          · intro i hi
            cases i with
            | zero => exact ⟨by simp [hk], by simp, by simp⟩
            | succ i => have := h3 i (by simpa using hi); simpa using this
        cases st with
        | false => simpa using step a
        | true =>
          simp only [if_pos, List.cons_append, List.nil_append]
          rw [raw_blank]
          exact step (a + 1)
theorem text_scan {l : List ATok} {x : Bs} (h : text false l = some x) (hx : x.length ≤ 40000) (hc : count l < 20000) :
    ∃ ts, scan x = .good (ts ++ [⟨0, [], 0, x.length⟩]) ∧ Same ts l := by
  obtain ⟨ts, h1, h2⟩ := text_raw l false x 0 h
  exact ⟨ts, scan_of_raw hx h1 (by rw [h2.1]; exact hc), h2⟩
end Go.Proofs.YtpcepfoebkmbgaaDoor.LX
