/- Mathematics of the consequences: a scan cut, two in a row, blanks put in. -/
import Derived.Test.YtfnkafnjpldaoaaDoorLxRaw
namespace Go.Proofs.YtfnkafnjpldaoaaDoor.LX
set_option linter.unusedVariables false
theorem scan_long {l : Bs} (h : 40000 < l.length) : scan l = .bad 2 0 := by unfold scan; rw [if_pos h]
/-- what a scan of a source that is not too long is, by its raw tokens -/
theorem scan_raw {l : Bs} (h : l.length ≤ 40000) : scan l = if h' : 20000 < (raw 0 l).1.length then .bad 2 ((raw 0 l).1[20000]).pos
    else match (raw 0 l).2 with
    | some (e, p) => .bad e p
    | none => if (raw 0 l).1.length = 20000 then .bad 2 l.length else .good ((raw 0 l).1 ++ [⟨0, [], 0, l.length⟩]) := by
  unfold scan; rw [if_neg (by omega)]; rfl
theorem scan_good_raw {l : Bs} {ts : List Tok} (h : scan l = .good ts) : l.length ≤ 40000 ∧ (raw 0 l).2 = none ∧ (raw 0 l).1.length < 20000 ∧ ts = (raw 0 l).1 ++ [⟨0, [], 0, l.length⟩] := by
  unfold scan at h
  split at h
  · cases h
  · rename_i h1
    split at h
    · cases h
    · rename_i h2
      split at h
      · cases h
      · rename_i h3
        split at h
        · cases h
        · rename_i h4
          injection h with h
          exact ⟨by omega, h3, by omega, h.symm⟩
theorem scan_of_raw {l : Bs} {ts : List Tok} (h : l.length ≤ 40000) (hr : raw 0 l = (ts, none)) (hl : ts.length < 20000) : scan l = .good (ts ++ [⟨0, [], 0, l.length⟩]) := by
  rw [scan_raw h, hr]
  simp only
  rw [dif_neg (by omega), if_neg (by omega)]
/-- an error: of a token, or one token too many -/
theorem scan_bad_raw {l : Bs} {e p : Nat} (h : scan l = .bad e p) (hl : l.length ≤ 40000) :
    (∃ hi : 20000 < (raw 0 l).1.length, e = 2 ∧ p = ((raw 0 l).1[20000]).pos) ∨ ((raw 0 l).1.length ≤ 20000 ∧ (raw 0 l).2 = some (e, p)) ∨ ((raw 0 l).1.length = 20000 ∧ (raw 0 l).2 = none ∧ e = 2 ∧ p = l.length) := by
  rw [scan_raw hl] at h
  split at h
  · rename_i h1
    injection h with h2 h3
    exact .inl ⟨h1, h2.symm, h3.symm⟩
  · rename_i h1
    split at h
    · rename_i e0 p0 h2
      injection h with h3 h4
      subst h3 h4
      exact .inr (.inl ⟨by omega, h2⟩)
    · rename_i h2
      split at h
      · rename_i h3
        injection h with h4 h5
        exact .inr (.inr ⟨h3, h2, h4.symm, h5.symm⟩)
      · cases h
/-- THE FIRST ERROR STAYS WHERE IT IS (the law LexFirst). -/
theorem scan_first {a b : Bs} {e p : Nat} (h : scan a = .bad e p) (hl : a.length + b.length < 40000) (hne : ¬ (e = 2 ∧ p = a.length)) : scan (a ++ 10 :: b) = .bad e p := by
  have hla : a.length ≤ 40000 := by omega
  have hlab : (a ++ 10 :: b).length ≤ 40000 := by simp; omega
  have key : ∀ ts, (raw 0 a).1 = ts → ∃ ts' f', raw 0 (a ++ 10 :: b) = (ts ++ ts', f') ∧ ((raw 0 a).2 ≠ none → ts' = [] ∧ f' = (raw 0 a).2) := by
    intro ts hts
    cases hf : (raw 0 a).2 with
    | none =>
      have := raw_app (q' := 10 :: b) (.inr ⟨10, b, rfl, .inr (.inr rfl)⟩) rfl (a.length + 1) a 0 ts (by omega) (Prod.ext hts hf)
      exact ⟨_, _, this, fun h => absurd rfl h⟩
    | some x =>
      obtain ⟨e0, p0⟩ := x
      have := raw_err b (a.length + 1) a 0 ts e0 p0 (by omega) (Prod.ext hts hf)
      exact ⟨[], some (e0, p0), by rw [this, List.append_nil], fun _ => ⟨rfl, rfl⟩⟩
  obtain ⟨ts', f', hraw, hsome⟩ := key _ rfl
  rcases scan_bad_raw h hla with ⟨hi, rfl, rfl⟩ | ⟨hi, he⟩ | ⟨hi, he, rfl, rfl⟩
  · rw [scan_raw hlab, hraw]
    simp only
    rw [dif_pos (by simp; omega)]
    congr 1
    rw [List.getElem_append_left hi]
  · obtain ⟨rfl, rfl⟩ := hsome (by rw [he]; simp)
    rw [scan_raw hlab, hraw, he]
    simp only [List.append_nil]
    rw [dif_neg (by omega)]
  · exact absurd ⟨rfl, rfl⟩ hne
theorem tok_bad_pos {c : UInt8} {r : Bs} {e : Nat} (h : tok c r = .bad e) : 1 ≤ e := by
  unfold tok at h
  split at h
  · unfold wordR at h
    split at h
    · injection h with h; omega
    · split at h <;> cases h
  · split at h
    · unfold numR at h
      split at h
      · injection h with h; omega
      · cases h
    · split at h
      · unfold hexR at h
        split at h
        · injection h with h; omega
        · split at h
          · unfold numR at h
            split at h
            · injection h with h; omega
            · cases h
          · injection h with h; omega
      · split at h
        · unfold charR at h
          split at h
          · injection h with h; omega
          · split at h
            · cases h
            · injection h with h; omega
        · split at h
          · unfold textR at h
            split at h
            · injection h with h; omega
            · split at h
              · injection h with h; omega
              · cases h
          · unfold signR at h
            split at h
            · cases h
            · split at h
              · cases h
              · injection h with h; omega
theorem raw_err_pos (m : Nat) : ∀ (l : Bs) (a e p : Nat), l.length < m → (raw a l).2 = some (e, p) → 1 ≤ e := by
  induction m with
  | zero => intro l a e p h; omega
  | succ m ih =>
    intro l a e0 p0 hm h
    rcases raw_cases a l with ⟨h0, hr⟩ | ⟨c, r, hd, h1, h2, h3, h4, ⟨e, ht, hr⟩ | ⟨k, s, n, len, ht, hl1, hl2, hr⟩⟩
    · rw [hr] at h; cases h
    · rw [hr] at h
      injection h with h
      injection h with h _
      subst h; exact tok_bad_pos ht
    · rw [hr] at h
      exact ih _ _ _ _ (by simp only [List.length_drop, List.length_cons]; omega) h
theorem scan_bad_pos {l : Bs} {e p : Nat} (h : scan l = .bad e p) : 1 ≤ e := by
  by_cases hl : 40000 < l.length
  · rw [scan_long hl] at h; injection h with h; omega
  · rcases scan_bad_raw h (by omega) with ⟨_, rfl, _⟩ | ⟨_, he⟩ | ⟨_, _, rfl, _⟩
    · omega
    · exact raw_err_pos _ l 0 e p (Nat.lt_succ_self _) he
    · omega
/-- the tokens of both -/
theorem raw_two {a : Bs} (h : (raw 0 a).2 = none) (b : Bs) : raw 0 (a ++ 10 :: b) = ((raw 0 a).1 ++ (raw 0 b).1.map (mv (a.length + 1)), mvE (a.length + 1) (raw 0 b).2) := by
  have h1 := raw_app (q' := 10 :: b) (.inr ⟨10, b, rfl, .inr (.inr rfl)⟩) rfl (a.length + 1) a 0 _ (by omega) (Prod.ext rfl h)
  have h2 : raw (0 + a.length) (10 :: b) = raw (a.length + 1) b := by
    have hs : skipG false (10 :: b) = skipG false b + 1 := rfl
    rw [raw_eq, raw_eq (a.length + 1) b, hs]
    have hd : (10 :: b).drop (skipG false b + 1) = b.drop (skipG false b) := rfl
    have he : 0 + a.length + (skipG false b + 1) = a.length + 1 + skipG false b := by omega
    rw [hd, he]
  rw [h1, h2, raw_at (a.length + 1) b]
/-- an error in the first source is one of both -/
theorem scan_two_bad {a b : Bs} {e p : Nat} (h : scan a = .bad e p) (hl : a.length + b.length < 40000) : ∃ e' p', scan (a ++ 10 :: b) = .bad e' p' ∧ 1 ≤ e' := by
  have hla : a.length ≤ 40000 := by omega
  have hlab : (a ++ 10 :: b).length ≤ 40000 := by simp; omega
  by_cases hne : e = 2 ∧ p = a.length
  · obtain ⟨rfl, rfl⟩ := hne
    rcases scan_bad_raw h hla with ⟨hi, _, hp⟩ | ⟨hi, he⟩ | ⟨hi, he, _, _⟩
    · exfalso
      have := (raw_rise (a.length + 1) a 0 (by omega)).2.1 _ (List.getElem_mem hi)
      omega
    · exfalso
      have := (raw_rise (a.length + 1) a 0 (by omega)).2.2.1 _ _ he
      omega
    · cases hs : scan (a ++ 10 :: b) with
      | bad e' p' => exact ⟨e', p', rfl, scan_bad_pos hs⟩
      | good ts =>
        exfalso
        obtain ⟨_, _, h3, _⟩ := scan_good_raw hs
        rw [raw_two he b] at h3
        simp at h3; omega
  · exact ⟨e, p, scan_first h hl hne, scan_bad_pos h⟩
/-- the tokens of two sources are those of both, or the second one's error is theirs -/
theorem scan_two {a b : Bs} {ts : List Tok} (h : scan a = .good (ts ++ [⟨0, [], 0, a.length⟩])) (hl : a.length + b.length < 40000) (hc : ts.length + 1 + b.length + 1 ≤ 20000) :
    (∀ e p, scan b = .bad e p → scan (a ++ 10 :: b) = .bad e (p + (a.length + 1))) ∧ ∀ us, scan b = .good us → scan (a ++ 10 :: b) = .good (ts ++ us.map (mv (a.length + 1))) := by
  have hlb : b.length ≤ 40000 := by omega
  have hlab : (a ++ 10 :: b).length ≤ 40000 := by simp; omega
  obtain ⟨_, h2, h3, h4⟩ := scan_good_raw h
  have hts : ts = (raw 0 a).1 := by
    have := List.append_inj_left' h4 rfl
    exact this
  have htwo := raw_two h2 b
  rw [← hts] at htwo
  have hrl := (raw_rise (b.length + 1) b 0 (by omega)).2.2.2
  refine ⟨fun e p hb => ?_, fun us hb => ?_⟩
  · rcases scan_bad_raw hb hlb with ⟨hi, _, _⟩ | ⟨hi, he⟩ | ⟨hi, _, _, _⟩
    · omega
    · rw [scan_raw hlab, htwo, he]
      simp only [mvE]
      rw [dif_neg (by simp; omega)]
    · omega
  · obtain ⟨_, h5, h6, h7⟩ := scan_good_raw hb
    have := scan_of_raw hlab (ts := ts ++ (raw 0 b).1.map (mv (a.length + 1))) (by rw [htwo, h5]; rfl) (by simp; omega)
    rw [this, h7]
    simp [mv]; omega
/-- A SOURCE CUT WHERE A TOKEN BEGINS (the law LexRises). -/
theorem scan_cut {l : Bs} {ts : List Tok} (h : scan l = .good (ts ++ [⟨0, [], 0, l.length⟩])) {k : Nat} {t : Tok} (hk : (ts ++ [⟨0, [], 0, l.length⟩])[k]? = some t) :
    t.pos ≤ l.length ∧ scan (l.take t.pos) = .good (ts.take k ++ [⟨0, [], 0, t.pos⟩]) := by
  obtain ⟨h1, h2, h3, h4⟩ := scan_good_raw h
  have hts : ts = (raw 0 l).1 := List.append_inj_left' h4 rfl
  by_cases hkl : k < ts.length
  · rw [List.getElem?_append_left hkl] at hk
    rw [hts] at hk
    obtain ⟨g1, g2, g3, _, _⟩ := raw_cut (q' := []) (.inl rfl) (l.length + 1) l 0 k t (by omega) hk
    rw [List.append_nil, Nat.sub_zero] at g3
    have e0 : raw t.pos [] = ([], none) := raw_end rfl
    rw [e0, List.append_nil] at g3
    have hlen : (l.take t.pos).length = t.pos := by rw [List.length_take]; omega
    refine ⟨by omega, ?_⟩
    have := scan_of_raw (l := l.take t.pos) (ts := (raw 0 l).1.take k) (by omega) g3 (by rw [List.length_take]; omega)
    rw [this, hlen, hts]
  · have hke : k = ts.length := by
      rcases Nat.lt_or_ge k (ts ++ [(⟨0, [], 0, l.length⟩ : Tok)]).length with h0 | h0
      · simp at h0; omega
      · rw [List.getElem?_eq_none h0] at hk; cases hk
    subst hke
    rw [List.getElem?_append_right (Nat.le_refl _), Nat.sub_self] at hk
    injection hk with hk
    subst hk
    simp only
    refine ⟨Nat.le_refl _, ?_⟩
    rw [List.take_length, h, List.take_length]
/-- blanks and a comment -/
def blanks : Bs := [9, 32, 47, 47, 42, 32, 10]
theorem raw_blanks (n : Nat) (r : Bs) : raw n (blanks ++ r) = raw (n + 7) r := by
  have hs : skipG false (blanks ++ r) = skipG false r + 7 := by
    show skipG false (9 :: 32 :: 47 :: 47 :: 42 :: 32 :: 10 :: r) = _
    simp [skipG]
  rw [raw_eq, raw_eq (n + 7) r, hs]
  have hd : (blanks ++ r).drop (skipG false r + 7) = r.drop (skipG false r) := by
    rw [Nat.add_comm, ← List.drop_drop]; rfl
  have he : n + (skipG false r + 7) = n + 7 + skipG false r := by omega
  rw [hd, he]
/-- tokens that are the same but for their places -/
def Alike (a b : List Tok) : Prop := a.length = b.length ∧ ∀ i, i < a.length → (a.getD i ⟨0, [], 0, 0⟩).kind = (b.getD i ⟨0, [], 0, 0⟩).kind ∧ (a.getD i ⟨0, [], 0, 0⟩).s = (b.getD i ⟨0, [], 0, 0⟩).s ∧ (a.getD i ⟨0, [], 0, 0⟩).n = (b.getD i ⟨0, [], 0, 0⟩).n
/-- BLANKS PUT AHEAD OF A TOKEN (the law LexBlanks). -/
theorem scan_blanks {l : Bs} {ts : List Tok} (h : scan l = .good (ts ++ [⟨0, [], 0, l.length⟩])) {k : Nat} {t : Tok} (hk : (ts ++ [⟨0, [], 0, l.length⟩])[k]? = some t) (hl : l.length + 8 ≤ 40000) :
    t.pos ≤ l.length ∧ ∃ us, scan (l.take t.pos ++ (blanks ++ l.drop t.pos)) = .good (us ++ [⟨0, [], 0, l.length + 7⟩]) ∧ Alike (ts ++ [⟨0, [], 0, l.length⟩]) (us ++ [⟨0, [], 0, l.length + 7⟩]) := by
  obtain ⟨h1, h2, h3, h4⟩ := scan_good_raw h
  have hts : ts = (raw 0 l).1 := List.append_inj_left' h4 rfl
  have hbb : ∀ r : Bs, brk (blanks ++ r) := fun r => .inr ⟨9, _, rfl, .inr (.inl rfl)⟩
  have hmk : ∀ us : List Tok, us.length = ts.length → (∀ i (hi : i < ts.length) (hi2 : i < us.length), us[i].kind = ts[i].kind ∧ us[i].s = ts[i].s ∧ us[i].n = ts[i].n) → Alike (ts ++ [⟨0, [], 0, l.length⟩]) (us ++ [⟨0, [], 0, l.length + 7⟩]) := by
    intro us hlen hall
    refine ⟨by simp [hlen], fun i hi => ?_⟩
    by_cases hit : i < ts.length
    · have hiu : i < us.length := by omega
      obtain ⟨a1, a2, a3⟩ := hall i hit hiu
      simp only [List.getD_eq_getElem?_getD, List.getElem?_append_left hit, List.getElem?_append_left hiu, List.getElem?_eq_getElem hit, List.getElem?_eq_getElem hiu, Option.getD_some]
      exact ⟨a1.symm, a2.symm, a3.symm⟩
    · have : i = ts.length := by simp at hi; omega
      subst this
      simp [← hlen]
  by_cases hkl : k < ts.length
  · rw [List.getElem?_append_left hkl] at hk
    rw [hts] at hk
    obtain ⟨g1, g2, g3, g4, g5⟩ := raw_cut (q' := blanks ++ l.drop t.pos) (hbb _) (l.length + 1) l 0 k t (by omega) hk
    rw [Nat.sub_zero] at g3 g4 g5
    rw [raw_blanks, raw_move (l.length + 1) (l.drop t.pos) t.pos 7 (by rw [List.length_drop]; omega)] at g3
    rw [← g4, ← g5, h2] at g3
    simp only [mvE] at g3
    have hlen : (l.take t.pos ++ (blanks ++ l.drop t.pos)).length = l.length + 7 := by simp [blanks]; omega
    refine ⟨by omega, (raw 0 l).1.take k ++ ((raw 0 l).1.drop k).map (mv 7), ?_, ?_⟩
    · have hcount : ((raw 0 l).1.take k ++ ((raw 0 l).1.drop k).map (mv 7)).length = (raw 0 l).1.length := by simp; omega
      have := scan_of_raw (l := l.take t.pos ++ (blanks ++ l.drop t.pos)) (by omega) g3 (by omega)
      rw [this, hlen]
    · refine hmk _ (by rw [hts]; simp; omega) ?_
      intro i hi hi2
      subst hts
      by_cases hik : i < k
      · rw [List.getElem_append_left (by simp; omega)]
        simp
      · rw [List.getElem_append_right (by simp; omega)]
        simp only [List.getElem_map, List.getElem_drop, mv, List.length_take]
        have : k + (i - min k (raw 0 l).1.length) = i := by omega
        simp only [this]
        simp
  · have hke : k = ts.length := by
      rcases Nat.lt_or_ge k (ts ++ [(⟨0, [], 0, l.length⟩ : Tok)]).length with h0 | h0
      · simp at h0; omega
      · rw [List.getElem?_eq_none h0] at hk; cases hk
    subst hke
    rw [List.getElem?_append_right (Nat.le_refl _), Nat.sub_self] at hk
    injection hk with hk
    subst hk
    simp only
    rw [List.take_length, List.drop_length]
    have hskip : skipG true (blanks ++ []) = skipG false (blanks ++ []) := by decide
    have := raw_app (q' := blanks ++ []) (hbb []) hskip (l.length + 1) l 0 ts (by omega) (Prod.ext hts.symm h2)
    rw [raw_blanks, show raw (0 + l.length + 7) [] = ([], none) from raw_end rfl] at this
    simp only [List.append_nil] at this
    have hlen : (l ++ blanks).length = l.length + 7 := by simp [blanks]
    refine ⟨Nat.le_refl _, ts, ?_, hmk ts rfl (fun i hi hi2 => ⟨rfl, rfl, rfl⟩)⟩
    have h5 := scan_of_raw (l := l ++ blanks) (by omega) this (by rw [hts]; exact h3)
    rw [List.append_nil, h5, hlen]
/-- places rise -/
theorem scan_rise {l : Bs} {ts : List Tok} (h : scan l = .good (ts ++ [⟨0, [], 0, l.length⟩])) : (∀ i j, i < j → j < ts.length → (ts.getD i ⟨0, [], 0, 0⟩).pos < (ts.getD j ⟨0, [], 0, 0⟩).pos) ∧ ∀ i, i < ts.length → (ts.getD i ⟨0, [], 0, 0⟩).pos < l.length := by
  obtain ⟨h1, h2, h3, h4⟩ := scan_good_raw h
  have hts : ts = (raw 0 l).1 := List.append_inj_left' h4 rfl
  obtain ⟨g1, g2, _, _⟩ := raw_rise (l.length + 1) l 0 (by omega)
  rw [← hts] at g1 g2
  refine ⟨fun i j hij hj => ?_, fun i hi => ?_⟩
  · have := List.pairwise_iff_getElem.1 g1 i j (by omega) hj hij
    simpa [List.getD_eq_getElem?_getD, List.getElem?_eq_getElem hj, List.getElem?_eq_getElem (show i < ts.length by omega)] using this
  · have := g2 _ (List.getElem_mem hi)
    simp only [List.getD_eq_getElem?_getD, List.getElem?_eq_getElem hi, Option.getD_some]; omega
theorem scan_good_form {l : Bs} {us : List Tok} (h : scan l = .good us) : ∃ ts, us = ts ++ [⟨0, [], 0, l.length⟩] ∧ ts.length < 20000 := by
  obtain ⟨_, _, h3, h4⟩ := scan_good_raw h
  exact ⟨_, h4, h3⟩
end Go.Proofs.YtfnkafnjpldaoaaDoor.LX
