/- All tokens of a source: sources in a row, sources cut, blanks put in; places rise. Plain mathematics. -/
import Derived.Test.YtfnkafnjpldaoaaDoorLxCons
namespace Go.Proofs.YtfnkafnjpldaoaaDoor.LX
set_option linter.unusedVariables false

/-- tokens moved by d -/
def mv (d : Nat) (t : Tok) : Tok := ⟨t.kind, t.s, t.n, t.pos + d⟩
def mvE (d : Nat) : Option (Nat × Nat) → Option (Nat × Nat)
  | none => none
  | some (e, p) => some (e, p + d)
theorem raw_cases (at_ : Nat) (l : Bs) :
    (skipG false l = l.length ∧ raw at_ l = ([], none)) ∨
    ∃ c r, l.drop (skipG false l) = c :: r ∧ l = l.take (skipG false l) ++ c :: r ∧ (l.take (skipG false l)).length = skipG false l ∧ skipG false l < l.length ∧ r.length + 1 + skipG false l = l.length ∧
      ((∃ e, tok c r = .bad e ∧ raw at_ l = ([], some (e, at_ + skipG false l))) ∨
       ∃ k s n len, tok c r = .good k s n len ∧ 1 ≤ len ∧ len ≤ r.length + 1 ∧ raw at_ l = (⟨k, s, n, at_ + skipG false l⟩ :: (raw (at_ + skipG false l + len) ((c :: r).drop len)).1, (raw (at_ + skipG false l + len) ((c :: r).drop len)).2)) := by
  cases hd : l.drop (skipG false l) with
  | nil =>
    left
    have h0 := skipG_le l false
    have h1 : l.length ≤ skipG false l := by simpa using hd
    exact ⟨by omega, raw_end (by omega)⟩
  | cons c r =>
    right
    obtain ⟨h1, h2, h3⟩ := drop_split hd
    refine ⟨c, r, rfl, h1, h2, h3, ?_, ?_⟩
    · have := congrArg List.length h1; simp only [List.length_append, List.length_cons, h2] at this; omega
    · cases ht : tok c r with
      | bad e => exact .inl ⟨e, rfl, raw_bad hd ht⟩
      | good k s n len => exact .inr ⟨k, s, n, len, rfl, (tok_len ht).1, (tok_len ht).2, raw_good hd ht⟩
theorem raw_move (m : Nat) : ∀ (l : Bs) (a d : Nat), l.length < m → raw (a + d) l = ((raw a l).1.map (mv d), mvE d (raw a l).2) := by
  induction m with
  | zero => intro l a d h; omega
  | succ m ih =>
    intro l a d hm
    cases hd : l.drop (skipG false l) with
    | nil =>
      have h0 := skipG_le l false
      have h1 : l.length ≤ skipG false l := by simpa using hd
      rw [raw_end (show skipG false l = l.length by omega), raw_end (show skipG false l = l.length by omega)]; rfl
    | cons c r =>
      obtain ⟨h1, h2, h3⟩ := drop_split hd
      have h4 := congrArg List.length h1
      simp only [List.length_append, List.length_cons, h2] at h4
      cases ht : tok c r with
      | bad e =>
        rw [raw_bad hd ht, raw_bad hd ht]
        simp only [List.map_nil, mvE, Prod.mk.injEq, Option.some.injEq, true_and]; omega
      | good k s n len =>
        have hl := tok_len ht
        have e : a + d + skipG false l + len = a + skipG false l + len + d := by omega
        rw [raw_good hd ht, raw_good hd ht, e, ih _ _ d (by simp only [List.length_drop, List.length_cons]; omega)]
        simp only [List.map_cons, mv, Prod.mk.injEq, List.cons.injEq, Tok.mk.injEq, true_and, and_true]; omega
theorem raw_at (a : Nat) (l : Bs) : raw a l = ((raw 0 l).1.map (mv a), mvE a (raw 0 l).2) := by
  have := raw_move (l.length + 1) l 0 a (by omega)
  rwa [Nat.zero_add] at this

theorem skip_zero {c : UInt8} {r R : Bs} (h00 : skipG false (c :: r) = 0) (hh : R.head? = r.head? ∨ brk R) : skipG false (c :: R) = 0 := by
  rw [skipG] at h00 ⊢
  split at h00
  · omega
  · rename_i hc
    rw [if_neg hc]
    split at h00
    · omega
    · rename_i hc2
      rw [if_neg]
      intro hx
      rcases hh with he | he
      · rw [he] at hx; exact hc2 hx
      · rcases he with rfl | ⟨d, r', rfl, rfl | rfl | rfl⟩ <;> simp at hx
/-- THE TOKENS OF A SOURCE THAT HAS NO ERROR, and then what follows. -/
theorem raw_app {q' : Bs} (hb : brk q') (hq : skipG true q' = skipG false q') (m : Nat) : ∀ (l : Bs) (a : Nat) (ts : List Tok), l.length < m → raw a l = (ts, none) →
    raw a (l ++ q') = (ts ++ (raw (a + l.length) q').1, (raw (a + l.length) q').2) := by
  have h47 : q'.head? ≠ some 47 := by
    rcases hb with rfl | ⟨c, r, rfl, rfl | rfl | rfl⟩ <;> simp
  induction m with
  | zero => intro l a ts h; omega
  | succ m ih =>
    intro l a ts hm h
    rcases raw_cases a l with ⟨h0, hr⟩ | ⟨c, r, hd, h1, h2, h3, h4, ⟨e, ht, hr⟩ | ⟨k, s, n, len, ht, hl1, hl2, hr⟩⟩
    · rw [hr] at h
      injection h with h _
      subst h
      have hs := skip_all hq h47 l false h0
      rw [List.nil_append]
      rw [raw_eq, raw_eq (a + l.length) q', hs]
      have he : (l ++ q').drop (l.length + skipG false q') = q'.drop (skipG false q') := by
        rw [← List.drop_drop]; simp
      rw [he]
      simp only [← Nat.add_assoc]
    · rw [hr] at h; injection h with _ h; cases h
    · rw [hr] at h
      injection h with e1 e2
      generalize hw : l.take (skipG false l) = w at h1 h2
      have hp : c :: r = c :: (r.take (len - 1) ++ r.drop (len - 1)) := by rw [List.take_append_drop]
      have hdl : (c :: r).drop len = r.drop (len - 1) := by
        obtain ⟨j, rfl⟩ : ∃ j, len = j + 1 := ⟨len - 1, by omega⟩
        rfl
      have ht' : tok c (r ++ q') = .good k s n len := by
        have e3 : r ++ q' = r.take (len - 1) ++ (r.drop (len - 1) ++ q') := by rw [← List.append_assoc, List.take_append_drop]
        rw [e3]
        refine tok_like (q := r.drop (len - 1)) (by rw [List.take_append_drop]; exact ht) (by simp; omega) ?_
        cases hx : r.drop (len - 1) with
        | nil => right; exact hb
        | cons d r' => left; rfl
      have hs1 : skipG false (w ++ c :: r) = w.length := by rw [← h1, h2]
      have hs2 : skipG false (w ++ (c :: r ++ q')) = w.length := by
        have := skip_ap w false hs1 (c :: r ++ q')
        have h0 := skip_ap w false hs1 (c :: r)
        rw [hs1] at h0
        have h00 : skipG false (c :: r) = 0 := by omega
        have : skipG false (c :: (r ++ q')) = 0 := by
          refine skip_zero h00 ?_
          cases r with
          | nil => exact .inr hb
          | cons d r' => exact .inl rfl
        rw [List.cons_append] at *
        omega
      have hl : l ++ q' = w ++ (c :: r ++ q') := by rw [h1, List.append_assoc]
      have hsk : skipG false (l ++ q') = skipG false l := by rw [hl, hs2, h2]
      have hd' : (l ++ q').drop (skipG false (l ++ q')) = c :: (r ++ q') := by
        rw [hsk, List.drop_append_of_le_length (by omega), hd]; rfl
      rw [raw_good hd' ht', hsk]
      have hdl' : (c :: (r ++ q')).drop len = r.drop (len - 1) ++ q' := by
        have : (c :: (r ++ q')).drop len = (r ++ q').drop (len - 1) := by
          obtain ⟨j, rfl⟩ : ∃ j, len = j + 1 := ⟨len - 1, by omega⟩
          rfl
        rw [this, List.drop_append_of_le_length (by omega)]
      rw [hdl'] at *
      rw [hdl] at e1 e2
      have hlen : (r.drop (len - 1)).length = r.length - (len - 1) := List.length_drop
      have hih := ih (r.drop (len - 1)) (a + skipG false l + len) (raw (a + skipG false l + len) (r.drop (len - 1))).1 (by omega) (Prod.ext rfl e2)
      rw [hih]
      have e4 : a + skipG false l + len + (r.drop (len - 1)).length = a + l.length := by omega
      rw [e4, ← e1]
      rfl
/-- THE FIRST ERROR STAYS, whatever comes behind a line feed. -/
theorem raw_err (b : Bs) (m : Nat) : ∀ (l : Bs) (a : Nat) (ts : List Tok) (e p : Nat), l.length < m → raw a l = (ts, some (e, p)) → raw a (l ++ 10 :: b) = (ts, some (e, p)) := by
  induction m with
  | zero => intro l a ts e p h; omega
  | succ m ih =>
    intro l a ts e0 p0 hm h
    rcases raw_cases a l with ⟨h0, hr⟩ | ⟨c, r, hd, h1, h2, h3, h4, hh⟩
    · rw [hr] at h; injection h with _ h; cases h
    · generalize hw : l.take (skipG false l) = w at h1 h2
      have hs1 : skipG false (w ++ c :: r) = w.length := by rw [← h1, h2]
      have hs2 : skipG false (w ++ (c :: r ++ 10 :: b)) = w.length := by
        have := skip_ap w false hs1 (c :: r ++ 10 :: b)
        have h0 := skip_ap w false hs1 (c :: r)
        rw [hs1] at h0
        have h00 : skipG false (c :: r) = 0 := by omega
        have : skipG false (c :: (r ++ 10 :: b)) = 0 := by
          refine skip_zero h00 ?_
          cases r with
          | nil => exact .inr (.inr ⟨10, b, rfl, .inr (.inr rfl)⟩)
          | cons d r' => exact .inl rfl
        rw [List.cons_append] at *
        omega
      have hl : l ++ 10 :: b = w ++ (c :: r ++ 10 :: b) := by rw [h1, List.append_assoc]
      have hsk : skipG false (l ++ 10 :: b) = skipG false l := by rw [hl, hs2, h2]
      have hd' : (l ++ 10 :: b).drop (skipG false (l ++ 10 :: b)) = c :: (r ++ 10 :: b) := by
        rw [hsk, List.drop_append_of_le_length (by omega), hd]; rfl
      rcases hh with ⟨e, ht, hr⟩ | ⟨k, s, n, len, ht, hl1, hl2, hr⟩
      · rw [raw_bad hd' (tok_bad_nl b ht), hsk, ← h, hr]
      · rw [hr] at h
        injection h with e1 e2
        have ht' : tok c (r ++ 10 :: b) = .good k s n len := by
          have e3 : r ++ 10 :: b = r.take (len - 1) ++ (r.drop (len - 1) ++ 10 :: b) := by rw [← List.append_assoc, List.take_append_drop]
          rw [e3]
          refine tok_like (q := r.drop (len - 1)) (by rw [List.take_append_drop]; exact ht) (by simp; omega) ?_
          cases hx : r.drop (len - 1) with
          | nil => right; exact .inr ⟨10, b, rfl, .inr (.inr rfl)⟩
          | cons d r' => left; rfl
        have hdl : (c :: r).drop len = r.drop (len - 1) := by
          obtain ⟨j, rfl⟩ : ∃ j, len = j + 1 := ⟨len - 1, by omega⟩
          rfl
        have hdl' : (c :: (r ++ 10 :: b)).drop len = r.drop (len - 1) ++ 10 :: b := by
          have : (c :: (r ++ 10 :: b)).drop len = (r ++ 10 :: b).drop (len - 1) := by
            obtain ⟨j, rfl⟩ : ∃ j, len = j + 1 := ⟨len - 1, by omega⟩
            rfl
          rw [this, List.drop_append_of_le_length (by omega)]
        rw [raw_good hd' ht', hsk, hdl']
        rw [hdl] at e1 e2
        have hlen : (r.drop (len - 1)).length = r.length - (len - 1) := List.length_drop
        rw [ih (r.drop (len - 1)) (a + skipG false l + len) (raw (a + skipG false l + len) (r.drop (len - 1))).1 e0 p0 (by omega) (Prod.ext rfl e2), ← e1]
/-- A SOURCE CUT WHERE A TOKEN BEGINS, and what is put there. -/
theorem raw_cut {q' : Bs} (hb : brk q') (m : Nat) : ∀ (l : Bs) (a : Nat) (j : Nat) (t : Tok), l.length < m → (raw a l).1[j]? = some t →
    a ≤ t.pos ∧ t.pos < a + l.length ∧ raw a (l.take (t.pos - a) ++ q') = ((raw a l).1.take j ++ (raw t.pos q').1, (raw t.pos q').2) ∧
    (raw a l).1.drop j = (raw t.pos (l.drop (t.pos - a))).1 ∧ (raw a l).2 = (raw t.pos (l.drop (t.pos - a))).2 := by
  induction m with
  | zero => intro l a j t h; omega
  | succ m ih =>
    intro l a j t hm h
    rcases raw_cases a l with ⟨h0, hr⟩ | ⟨c, r, hd, h1, h2, h3, h4, ⟨e, ht, hr⟩ | ⟨k, s, n, len, ht, hl1, hl2, hr⟩⟩
    · rw [hr] at h; simp at h
    · rw [hr] at h; simp at h
    · have hr0 := hr
      rw [hr] at h
      generalize hw : l.take (skipG false l) = w at h1 h2
      have hs1 : skipG false (w ++ c :: r) = w.length := by rw [← h1, h2]
      have hdl : (c :: r).drop len = r.drop (len - 1) := by
        obtain ⟨j, rfl⟩ : ∃ j, len = j + 1 := ⟨len - 1, by omega⟩
        rfl
      have hlen : (r.drop (len - 1)).length = r.length - (len - 1) := List.length_drop
      cases j with
      | zero =>
        simp only [List.getElem?_cons_zero, Option.some.injEq] at h
        subst h
        simp only
        have e0 : a + skipG false l - a = skipG false l := by omega
        rw [e0]
        refine ⟨by omega, by omega, ?_, ?_, ?_⟩
        · rw [hw]
          have hs := skip_ap w false hs1 q'
          rw [raw_eq, raw_eq (a + skipG false l) q', hs]
          have he : (w ++ q').drop (w.length + skipG false q') = q'.drop (skipG false q') := by rw [← List.drop_drop]; simp
          rw [he, ← h2]
          simp only [← Nat.add_assoc, List.take_zero, List.nil_append]
        · have h00 : skipG false (c :: r) = 0 := by
            have h0 := skip_ap w false hs1 (c :: r)
            rw [hs1] at h0; omega
          rw [hd, List.drop_zero, hr, raw_good (l := c :: r) (c := c) (r := r) (by rw [h00]; rfl) ht, h00]
          rfl
        · have h00 : skipG false (c :: r) = 0 := by
            have h0 := skip_ap w false hs1 (c :: r)
            rw [hs1] at h0; omega
          rw [hd, hr, raw_good (l := c :: r) (c := c) (r := r) (by rw [h00]; rfl) ht, h00]
          rfl
      | succ j =>
        simp only [List.getElem?_cons_succ] at h
        rw [hdl] at h hr
        obtain ⟨g1, g2, g3, g4, g5⟩ := ih (r.drop (len - 1)) (a + skipG false l + len) j t (by omega) h
        have ep : t.pos - a = skipG false l + (len + (t.pos - (a + skipG false l + len))) := by omega
        obtain ⟨x, hx⟩ : ∃ x, x = t.pos - (a + skipG false l + len) := ⟨_, rfl⟩
        rw [← hx] at ep g3 g4 g5
        refine ⟨by omega, by omega, ?_, ?_, ?_⟩
        · have hl' : l.take (t.pos - a) ++ q' = w ++ (c :: (r.take (len - 1) ++ ((r.drop (len - 1)).take x ++ q'))) := by
            rw [ep]
            have hc : l.take (skipG false l + (len + x)) = (w ++ c :: r).take (w.length + (len + x)) := by rw [h2]; exact congrArg _ h1
            rw [hc, List.take_length_add_append, List.append_assoc]
            congr 1
            obtain ⟨i, rfl⟩ : ∃ i, len = i + 1 := ⟨len - 1, by omega⟩
            have : i + 1 + x = (i + x) + 1 := by omega
            rw [this, List.take_succ_cons, Nat.add_sub_cancel, List.take_add, List.cons_append, List.append_assoc]
          rw [hl']
          have hlike : like (r.drop (len - 1)) ((r.drop (len - 1)).take x ++ q') := by
            cases hx0 : x with
            | zero => right; rw [List.take_zero, List.nil_append]; exact hb
            | succ x' =>
              cases hdr : r.drop (len - 1) with
              | nil => right; rw [List.take_nil, List.nil_append]; exact hb
              | cons d r' => left; rfl
          have ht' : tok c (r.take (len - 1) ++ ((r.drop (len - 1)).take x ++ q')) = .good k s n len :=
            tok_like (q := r.drop (len - 1)) (by rw [List.take_append_drop]; exact ht) (by simp; omega) hlike
          generalize hR : r.take (len - 1) ++ ((r.drop (len - 1)).take x ++ q') = R at ht'
          have h00 : skipG false (c :: r) = 0 := by
            have h0 := skip_ap w false hs1 (c :: r)
            rw [hs1] at h0; omega
          have h00' : skipG false (c :: R) = 0 := by
            have hhead : R.head? = r.head? ∨ brk R := by
              rw [← hR]
              cases hl0 : len - 1 with
              | zero =>
                rw [hl0] at hlike
                simpa [like] using hlike
              | succ i =>
                cases r with
                | nil => simp at hl2; omega
                | cons d r' => left; rfl
            exact skip_zero h00 hhead
          have hsk : skipG false (w ++ c :: R) = w.length := by rw [skip_ap w false hs1 (c :: R), h00']; omega
          have hd' : (w ++ c :: R).drop (skipG false (w ++ c :: R)) = c :: R := by rw [hsk]; simp
          rw [raw_good hd' ht', hsk, h2]
          have hdR : (c :: R).drop len = (r.drop (len - 1)).take x ++ q' := by
            rw [← hR]
            have : len = (r.take (len - 1)).length + 1 := by simp; omega
            rw [this, List.drop_succ_cons]; simp
          rw [hdR, g3, hr]
          simp
        · rw [hr, List.drop_succ_cons, g4, ep]
          have : l.drop (skipG false l + (len + x)) = (r.drop (len - 1)).drop x := by
            rw [← List.drop_drop, hd, ← hdl, List.drop_drop]
          rw [this]
        · rw [hr]
          simp only
          rw [g5, ep]
          have : l.drop (skipG false l + (len + x)) = (r.drop (len - 1)).drop x := by
            rw [← List.drop_drop, hd, ← hdl, List.drop_drop]
          rw [this]
/-- places rise -/
theorem raw_rise (m : Nat) : ∀ (l : Bs) (a : Nat), l.length < m → (raw a l).1.Pairwise (fun t u => t.pos < u.pos) ∧ (∀ t ∈ (raw a l).1, a ≤ t.pos ∧ t.pos < a + l.length) ∧ (∀ e p, (raw a l).2 = some (e, p) → a ≤ p ∧ p < a + l.length) ∧ (raw a l).1.length ≤ l.length := by
  induction m with
  | zero => intro l a h; omega
  | succ m ih =>
    intro l a hm
    rcases raw_cases a l with ⟨h0, hr⟩ | ⟨c, r, hd, h1, h2, h3, h4, ⟨e, ht, hr⟩ | ⟨k, s, n, len, ht, hl1, hl2, hr⟩⟩
    · rw [hr]; simp
    · rw [hr]; simp; omega
    · have hlen : ((c :: r).drop len).length = r.length + 1 - len := by simp
      obtain ⟨g1, g2, g3, g4⟩ := ih ((c :: r).drop len) (a + skipG false l + len) (by omega)
      rw [hr]
      refine ⟨?_, ?_, ?_, ?_⟩
      · rw [List.pairwise_cons]
        refine ⟨fun t ht => ?_, g1⟩
        have := g2 t ht
        simp only; omega
      · intro t ht
        rcases List.mem_cons.1 ht with rfl | ht
        · simp only; omega
        · have := g2 t ht; omega
      · intro e p he
        have := g3 e p he; omega
      · simp only [List.length_cons]; omega
end Go.Proofs.YtfnkafnjpldaoaaDoor.LX
