/- Consequences for tokens: what comes behind does not matter; sources in a row; sources cut. Plain mathematics. -/
import Derived.Test.YtfnkafnjpldaoaaDoorLxMath
namespace Go.Proofs.YtfnkafnjpldaoaaDoor.LX
set_option linter.unusedVariables false

/-- what ends any token: the end, a blank, a tab, a line feed -/
def brk (q : Bs) : Prop := q = [] ∨ ∃ c r, q = c :: r ∧ (c = 32 ∨ c = 9 ∨ c = 10)
/-- behind a token the same byte, or what ends any -/
def like (q q' : Bs) : Prop := q'.head? = q.head? ∨ brk q'

theorem takeWhile_like {p : UInt8 → Bool} (h32 : p 32 = false) (h9 : p 9 = false) (h10 : p 10 = false) {q q' : Bs} (h : like q q') : ∀ a : Bs, (a ++ q).takeWhile p = a → (a ++ q').takeWhile p = a := by
  intro a
  induction a with
  | nil =>
    intro hq
    rcases h with h | h
    · cases q' with
      | nil => rfl
      | cons c r =>
        cases q with
        | nil => simp at h
        | cons d r' =>
          simp at h; subst h
          simp only [List.nil_append, List.takeWhile_cons] at hq ⊢
          split at hq
          · cases hq
          · rename_i hn; rw [if_neg hn]
    · rcases h with rfl | ⟨c, r, rfl, rfl | rfl | rfl⟩
      · rfl
      · simp [h32]
      · simp [h9]
      · simp [h10]
  | cons c a ih =>
    intro hq
    simp only [List.cons_append, List.takeWhile_cons] at hq ⊢
    split at hq
    · rename_i hc
      rw [if_pos hc]
      simp only [List.cons.injEq, true_and] at hq
      rw [ih hq]
    · cases hq
theorem takeWhile_self {p : UInt8 → Bool} {a q : Bs} (h : ((a ++ q).takeWhile p).length = a.length) : (a ++ q).takeWhile p = a := by
  have h1 : (a ++ q).takeWhile p <+: a ++ q := List.takeWhile_prefix p
  have h2 : a <+: a ++ q := List.prefix_append a q
  exact List.IsPrefix.eq_of_length (List.prefix_of_prefix_length_le h1 h2 (by omega)) h
theorem takeWhile_nl {p : UInt8 → Bool} (h10 : p 10 = false) (b : Bs) : ∀ l : Bs, (l ++ 10 :: b).takeWhile p = l.takeWhile p := by
  intro l
  induction l with
  | nil => simp [h10]
  | cons c r ih => simp only [List.cons_append, List.takeWhile_cons, ih]

theorem letter_app {q : UInt8} {l x : Bs} {d : UInt8} {n : Nat} (h : letter q l = some (d, n)) : letter q (l ++ x) = some (d, n) := by
  cases l with
  | nil => simp [letter] at h
  | cons c r =>
    simp only [letter, List.cons_append] at h ⊢
    split at h
    · rename_i hc
      rw [if_pos hc]
      cases r with
      | nil => simp at h
      | cons e r' => exact h
    · rename_i hc
      rw [if_neg hc]; exact h
theorem letter_take {q : UInt8} {a x y : Bs} {d : UInt8} {n : Nat} (h : letter q (a ++ x) = some (d, n)) (hn : n ≤ a.length) : letter q (a ++ y) = some (d, n) := by
  have h1 : letter q a = some (d, n) := by
    cases a with
    | nil => have := (letter_len h).1; simp at hn; omega
    | cons c r =>
      simp only [letter, List.cons_append] at h ⊢
      split at h
      · rename_i hc
        rw [if_pos hc]
        cases r with
        | nil =>
          simp only [List.nil_append] at h
          cases x with
          | nil => simp at h
          | cons e x' =>
            simp only [Option.map_eq_some_iff, Prod.mk.injEq] at h
            obtain ⟨_, _, _, rfl⟩ := h
            simp at hn
        | cons e r' => exact h
      · rename_i hc
        rw [if_neg hc]; exact h
  exact letter_app h1
theorem letter_nl {q : UInt8} {l : Bs} (b : Bs) (h : letter q l = none) : letter q (l ++ 10 :: b) = none := by
  cases l with
  | nil => rfl
  | cons c r =>
    simp only [letter, List.cons_append] at h ⊢
    split at h
    · rename_i hc
      rw [if_pos hc]
      cases r with
      | nil => rfl
      | cons e r' => exact h
    · rename_i hc
      rw [if_neg hc]; exact h
theorem strG_take {x y : Bs} : ∀ (a : Bs) (st : Bool) (s : Bs) (n : Nat), strG st (a ++ x) = some (s, n) → n ≤ a.length → strG st (a ++ y) = some (s, n) := by
  intro a
  induction a with
  | nil => intro st s n h hn; have := (strG_len _ _ _ _ h).1; simp at hn; omega
  | cons c r ih =>
    intro st s n h hn
    simp only [List.length_cons] at hn
    cases st with
    | true =>
      simp only [List.cons_append, strG] at h ⊢
      cases he : esc c with
      | none => rw [he] at h; cases h
      | some d =>
        rw [he] at h
        simp only [Option.map_eq_some_iff] at h ⊢
        obtain ⟨⟨s', n'⟩, hs, hx⟩ := h
        simp only [Prod.mk.injEq] at hx
        obtain ⟨rfl, rfl⟩ := hx
        exact ⟨(s', n'), ih false s' n' hs (by omega), rfl⟩
    | false =>
      simp only [List.cons_append, strG] at h ⊢
      split at h
      · rename_i hc; rw [if_pos hc]; exact h
      · rename_i hc
        rw [if_neg hc]
        split at h
        · rename_i hc2
          rw [if_pos hc2]
          simp only [Option.map_eq_some_iff] at h ⊢
          obtain ⟨⟨s', n'⟩, hs, hx⟩ := h
          simp only [Prod.mk.injEq] at hx
          obtain ⟨rfl, rfl⟩ := hx
          exact ⟨(s', n'), ih true s' n' hs (by omega), rfl⟩
        · rename_i hc2
          rw [if_neg hc2]
          split at h
          · rename_i hc3
            rw [if_pos hc3]
            simp only [Option.map_eq_some_iff] at h ⊢
            obtain ⟨⟨s', n'⟩, hs, hx⟩ := h
            simp only [Prod.mk.injEq] at hx
            obtain ⟨rfl, rfl⟩ := hx
            exact ⟨(s', n'), ih false s' n' hs (by omega), rfl⟩
          · cases h
theorem strG_nl (b : Bs) : ∀ (l : Bs) (st : Bool), strG st l = none → strG st (l ++ 10 :: b) = none := by
  intro l
  induction l with
  | nil => intro st h; cases st <;> rfl
  | cons c r ih =>
    intro st h
    cases st with
    | true =>
      simp only [List.cons_append, strG] at h ⊢
      cases he : esc c with
      | none => rfl
      | some d =>
        rw [he] at h
        simp only [Option.map_eq_none_iff] at h ⊢
        exact ih false h
    | false =>
      simp only [List.cons_append, strG] at h ⊢
      split at h
      · cases h
      · rename_i hc
        rw [if_neg hc]
        split at h
        · rename_i hc2
          rw [if_pos hc2]
          simp only [Option.map_eq_none_iff] at h ⊢
          exact ih true h
        · rename_i hc2
          rw [if_neg hc2]
          split at h
          · rename_i hc3
            rw [if_pos hc3]
            simp only [Option.map_eq_none_iff] at h ⊢
            exact ih false h
          · rename_i hc3; rw [if_neg hc3]

theorem signL_len : ∀ s ∈ signL, s.length = 1 ∨ s.length = 2 := by decide
theorem signL_brk (c : UInt8) : [c, 32] ∉ signL ∧ [c, 9] ∉ signL ∧ [c, 10] ∉ signL := by
  refine ⟨?_, ?_, ?_⟩ <;> simp [signL]
theorem part_brk : part 32 = false ∧ part 9 = false ∧ part 10 = false := by decide
theorem nib_brk (b : Nat) (hb : b ≤ 16) : decide (nib 32 < b) = false ∧ decide (nib 9 < b) = false ∧ decide (nib 10 < b) = false := by
  have : nib 32 = 16 ∧ nib 9 = 16 ∧ nib 10 = 16 := by decide
  simp [this]; omega

theorem digs_like {b : Nat} (hb : b ≤ 16) {q q' : Bs} (h : like q q') {a : Bs} (ha : (digs b (a ++ q)).length = a.length) : digs b (a ++ q) = a ∧ digs b (a ++ q') = a := by
  have h0 : digs b (a ++ q) = a := takeWhile_self ha
  exact ⟨h0, takeWhile_like (nib_brk b hb).1 (nib_brk b hb).2.1 (nib_brk b hb).2.2 h a h0⟩

/-- A TOKEN STAYS, whatever comes behind: the same byte, or what ends any token. -/
theorem tok_like {c : UInt8} {p q q' : Bs} {k : Nat} {s : Bs} {n : Int} {len : Nat} (h : tok c (p ++ q) = .good k s n len) (hlen : len = p.length + 1) (hq : like q q') : tok c (p ++ q') = .good k s n len := by
  unfold tok at h ⊢
  split at h
  · rename_i hs
    rw [if_pos hs]
    have hw : ((c :: p) ++ q).takeWhile part = c :: p := by
      apply takeWhile_self
      unfold wordR at h
      split at h
      · cases h
      · split at h
        · injection h with _ _ _ h; rw [← List.cons_append] at h; rw [h, hlen]; rfl
        · injection h with _ _ _ h; rw [← List.cons_append] at h; rw [h, hlen]; rfl
    have hw' := takeWhile_like part_brk.1 part_brk.2.1 part_brk.2.2 hq _ hw
    unfold wordR at h ⊢
    rw [← List.cons_append, hw] at h
    rw [← List.cons_append, hw']
    exact h
  · rename_i hs
    rw [if_neg hs]
    split at h
    · rename_i hd
      rw [if_pos hd]
      unfold numR at h ⊢
      rw [← List.cons_append] at h ⊢
      have hl : (digs 10 ((c :: p) ++ q)).length = (c :: p).length := by
        split at h
        · cases h
        · injection h with _ _ _ h; rw [Nat.zero_add] at h; rw [h, hlen]; rfl
      obtain ⟨h1, h2⟩ := digs_like (by omega) hq hl
      rw [h1] at h
      rw [h2]; exact h
    · rename_i hd
      rw [if_neg hd]
      split at h
      · rename_i h35
        rw [if_pos h35]
        cases p with
        | nil =>
          exfalso
          simp only [List.nil_append] at h
          cases q with
          | nil => simp [hexR] at h
          | cons d r =>
            simp only [hexR] at h
            split at h
            · rename_i hn
              unfold numR at h
              split at h
              · cases h
              · injection h with _ _ _ h
                have := takeWhile_pos (p := fun c => decide (nib c < 16)) (r := r) (c := d) (by simpa using hn)
                unfold digs at h
                simp only [List.length_nil] at hlen
                omega
            · cases h
        | cons d p' =>
          simp only [List.cons_append, hexR] at h ⊢
          split at h
          · rename_i hn
            rw [if_pos hn]
            unfold numR at h ⊢
            rw [← List.cons_append] at h ⊢
            have hl : (digs 16 ((d :: p') ++ q)).length = (d :: p').length := by
              split at h
              · cases h
              · injection h with _ _ _ h; simp only [List.length_cons] at hlen ⊢; omega
            obtain ⟨h1, h2⟩ := digs_like (by omega) hq hl
            rw [h1] at h
            rw [h2]; exact h
          · cases h
      · rename_i h35
        rw [if_neg h35]
        split at h
        · rename_i h39
          rw [if_pos h39]
          unfold charR at h ⊢
          split at h
          · cases h
          · rename_i d m hl
            split at h
            · rename_i hh
              injection h with e1 e2 e3 e4
              subst e4
              have hm : m + 1 = p.length := by omega
              rw [letter_take hl (by omega)]
              simp only
              have hp : ∀ x : Bs, ((p ++ x).drop m).head? = p[m]? := by
                intro x
                rw [List.drop_append_of_le_length (by omega), List.head?_append, List.head?_drop]
                rw [List.getElem?_eq_getElem (by omega)]; rfl
              rw [hp] at hh
              rw [hp, if_pos hh, e1, e2, e3]
            · cases h
        · rename_i h39
          rw [if_neg h39]
          split at h
          · rename_i h34
            rw [if_pos h34]
            unfold textR at h ⊢
            split at h
            · cases h
            · rename_i s' m hl
              split at h
              · cases h
              · rename_i h100
                injection h with e1 e2 e3 e4
                have hm : m = p.length := by omega
                rw [strG_take p false s' m hl (by omega)]
                simp only
                rw [if_neg h100, e1, e2, e3, e4]
          · rename_i h34
            rw [if_neg h34]
            unfold signR at h ⊢
            split at h
            · rename_i h2
              injection h with e1 e2 e3 e4
              cases p with
              | nil =>
                simp only [List.nil_append, List.length_nil] at hlen h2 e4 e2 ⊢
                have : (List.take 2 (c :: q)).length = 1 := by omega
                have hq0 : q = [] := by cases q with | nil => rfl | cons d r => simp at this
                subst hq0
                have hc : [c] ∈ signL := h2
                have hn2 : List.take 2 (c :: q') ∉ signL ∨ q' = [] := by
                  rcases hq with hq | hq
                  · right; cases q' with | nil => rfl | cons d r => simp at hq
                  · rcases hq with rfl | ⟨d, r, rfl, rfl | rfl | rfl⟩
                    · exact .inr rfl
                    · exact .inl (signL_brk c).1
                    · exact .inl (signL_brk c).2.1
                    · exact .inl (signL_brk c).2.2
                rcases hn2 with hn2 | rfl
                · rw [if_neg hn2]
                  rw [if_pos (show List.take 1 (c :: q') ∈ signL from hc)]
                  simp at e2 e4; subst e1 e2 e3 e4; rfl
                · rw [if_pos h2]; subst e1 e2 e3 e4; rfl
              | cons d p' =>
                have : p' = [] := by
                  simp only [List.length_cons] at hlen
                  have : (List.take 2 (c :: (d :: p' ++ q))).length ≤ 2 := by simp
                  cases p' with | nil => rfl | cons _ _ => simp at *; omega
                subst this
                have he : List.take 2 (c :: ([d] ++ q')) = List.take 2 (c :: ([d] ++ q)) := rfl
                rw [he, if_pos h2]; subst e1 e2 e3 e4; rfl
            · rename_i h2
              split at h
              · rename_i h1
                injection h with e1 e2 e3 e4
                have hp : p = [] := by cases p with | nil => rfl | cons _ _ => simp at hlen; omega
                subst hp
                simp only [List.nil_append] at h2 h1 e2 ⊢
                have hn2 : List.take 2 (c :: q') ∉ signL ∨ q' = [] := by
                  rcases hq with hq | hq
                  · cases q' with
                    | nil => exact .inr rfl
                    | cons d r =>
                      cases q with
                      | nil => simp at hq
                      | cons d' r' => simp at hq; subst hq; exact .inl h2
                  · rcases hq with rfl | ⟨d, r, rfl, rfl | rfl | rfl⟩
                    · exact .inr rfl
                    · exact .inl (signL_brk c).1
                    · exact .inl (signL_brk c).2.1
                    · exact .inl (signL_brk c).2.2
                have h1' : List.take 1 (c :: q') ∈ signL := h1
                rcases hn2 with hn2 | rfl
                · rw [if_neg hn2, if_pos h1']; subst e1 e2 e3 e4; rfl
                · have : List.take 2 [c] ∈ signL := h1
                  rw [if_pos this]; subst e1 e2 e3 e4; rfl
              · cases h
/-- AN ERROR STAYS, whatever comes behind a line feed. -/
theorem tok_bad_nl {c : UInt8} {r : Bs} {e : Nat} (b : Bs) (h : tok c r = .bad e) : tok c (r ++ 10 :: b) = .bad e := by
  unfold tok at h ⊢
  split at h
  · rename_i hs
    rw [if_pos hs]
    unfold wordR at h ⊢
    rw [← List.cons_append, takeWhile_nl part_brk.2.2]
    exact h
  · rename_i hs
    rw [if_neg hs]
    split at h
    · rename_i hd
      rw [if_pos hd]
      unfold numR digs at h ⊢
      rw [← List.cons_append, takeWhile_nl (nib_brk 10 (by omega)).2.2]
      exact h
    · rename_i hd
      rw [if_neg hd]
      split at h
      · rename_i h35
        rw [if_pos h35]
        cases r with
        | nil =>
          simp only [hexR] at h
          simp only [List.nil_append, hexR]
          rw [if_neg (by decide)]; exact h
        | cons d r' =>
          simp only [List.cons_append, hexR] at h ⊢
          split at h
          · rename_i hn
            rw [if_pos hn]
            unfold numR digs at h ⊢
            rw [← List.cons_append, takeWhile_nl (nib_brk 16 (by omega)).2.2]
            exact h
          · rename_i hn; rw [if_neg hn]; exact h
      · rename_i h35
        rw [if_neg h35]
        split at h
        · rename_i h39
          rw [if_pos h39]
          unfold charR at h ⊢
          split at h
          · rename_i hl
            rw [letter_nl b hl]; exact h
          · rename_i d m hl
            have hm := letter_len hl
            rw [letter_app hl]
            simp only
            split at h
            · cases h
            · rename_i hh
              have : ¬ ((r ++ 10 :: b).drop m).head? = some 39 := by
                rw [List.drop_append_of_le_length hm.2, List.head?_append]
                cases hx : (r.drop m).head? with
                | none => simp
                | some x => rw [hx] at hh; simpa using hh
              rw [if_neg this]; exact h
        · rename_i h39
          rw [if_neg h39]
          split at h
          · rename_i h34
            rw [if_pos h34]
            unfold textR at h ⊢
            split at h
            · rename_i hl
              rw [strG_nl b r false hl]; exact h
            · rename_i s m hl
              have hm := strG_len _ _ _ _ hl
              have := strG_take (x := []) (y := 10 :: b) r false s m (by simpa using hl) hm.2.1
              rw [this]; exact h
          · rename_i h34
            rw [if_neg h34]
            unfold signR at h ⊢
            split at h
            · cases h
            · rename_i h2
              split at h
              · cases h
              · rename_i h1
                have h1' : ¬ List.take 1 (c :: (r ++ 10 :: b)) ∈ signL := h1
                have h2' : ¬ List.take 2 (c :: (r ++ 10 :: b)) ∈ signL := by
                  cases r with
                  | nil => exact (signL_brk c).2.2
                  | cons d r' => exact h2
                rw [if_neg h2', if_neg h1']; exact h

/-! what is skipped -/
theorem skip_ap {c : UInt8} {r : Bs} : ∀ (w : Bs) (st : Bool), skipG st (w ++ c :: r) = w.length → ∀ q' : Bs, skipG st (w ++ q') = w.length + skipG false q' := by
  intro w
  induction w with
  | nil =>
    intro st h q'
    cases st with
    | true =>
      simp only [List.nil_append, skipG] at h
      split at h <;> simp at h
    | false => simp
  | cons d w ih =>
    intro st h q'
    cases st with
    | true =>
      simp only [List.cons_append, skipG, List.length_cons] at h ⊢
      split at h
      · rename_i hc; rw [if_pos hc, ih false (by omega) q']; omega
      · rename_i hc; rw [if_neg hc, ih true (by omega) q']; omega
    | false =>
      simp only [List.cons_append, skipG, List.length_cons] at h ⊢
      split at h
      · rename_i hc; rw [if_pos hc, ih false (by omega) q']; omega
      · rename_i hc
        rw [if_neg hc]
        split at h
        · rename_i hc2
          cases w with
          | nil =>
            simp only [List.nil_append, List.length_nil, skipG] at h
            split at h <;> simp at h
          | cons e w' =>
            have : d.toNat = 47 ∧ (e :: w' ++ q').head? = some 47 := by simpa using hc2
            rw [if_pos this, ih true (by omega) q']; omega
        · omega
theorem skip_all {q' : Bs} (hq : skipG true q' = skipG false q') (h47 : q'.head? ≠ some 47) : ∀ (l : Bs) (st : Bool), skipG st l = l.length → skipG st (l ++ q') = l.length + skipG false q' := by
  intro l
  induction l with
  | nil => intro st _; cases st <;> simp [hq]
  | cons d w ih =>
    intro st h
    cases st with
    | true =>
      simp only [List.cons_append, skipG, List.length_cons] at h ⊢
      split at h
      · rename_i hc; rw [if_pos hc, ih false (by omega)]; omega
      · rename_i hc; rw [if_neg hc, ih true (by omega)]; omega
    | false =>
      simp only [List.cons_append, skipG, List.length_cons] at h ⊢
      split at h
      · rename_i hc; rw [if_pos hc, ih false (by omega)]; omega
      · rename_i hc
        rw [if_neg hc]
        split at h
        · rename_i hc2
          cases w with
          | nil => simp at hc2
          | cons e w' =>
            have : d.toNat = 47 ∧ (e :: w' ++ q').head? = some 47 := by simpa using hc2
            rw [if_pos this, ih true (by omega)]; omega
        · omega
theorem drop_split {l : Bs} {m : Nat} {c : UInt8} {r : Bs} (h : l.drop m = c :: r) : l = l.take m ++ c :: r ∧ (l.take m).length = m ∧ m < l.length := by
  have h0 : m < l.length := by
    rcases Nat.lt_or_ge m l.length with h0 | h0
    · exact h0
    · rw [List.drop_of_length_le h0] at h; cases h
  exact ⟨by rw [← h, List.take_append_drop], by simp; omega, h0⟩
end Go.Proofs.YtfnkafnjpldaoaaDoor.LX
