/- The program's way of asking whether code is valid, as functions; and that it finds just the same code valid. Mathematics alone: no function of the program is named here. -/
import Derived.Test.YtfnkafnjpldaoaaDoorOcAg
import Derived.Test.YtfnkafnjpldaoaaDoorOcQd
namespace Go.Proofs.YtfnkafnjpldaoaaDoor
open OC
set_option linter.unusedVariables false
set_option linter.unusedSimpArgs false
def isCodeQ (c : OC.Code) : Bool :=
  decide ((LX.quoteR c.name).2 = 0) && c.ops.all (numQ c.data.length c.procs c.labels) && casQ 0 c.ops && proQ c.procs 0 c.ops && labQ c.labels c.ops && c.data.all datOk && OC.entB c.procs [] c.globals
def stackQ (c : OC.Code) : Bool := kepQ 0 0 c.ops && reaQ c.ops (plaQ 0 c.ops (List.replicate (c.labels + 1).toNat 0)) c.ops
/-- what the program says of code: 0, nothing is wrong -/
def checkQ (c : OC.Code) : Nat := if withinQ c = false then 2 else if isCodeQ c = false then 60 else if stackQ c = false then 61 else 0
theorem numQ_eq {nd procs labels : Int} (h1 : nd ≤ 2000) (h2 : procs ≤ 200) (h3 : labels ≤ 20000) (o : OC.Op) : numQ nd procs labels o = numB nd procs labels o := by
  obtain ⟨op, n, m⟩ := o
  by_cases h : 1 ≤ op ∧ op ≤ 30
  · have : op = 1 ∨ op = 2 ∨ op = 3 ∨ op = 4 ∨ op = 5 ∨ op = 6 ∨ op = 7 ∨ op = 8 ∨ op = 9 ∨ op = 10 ∨ op = 11 ∨ op = 12 ∨ op = 13 ∨ op = 14 ∨ op = 15 ∨ op = 16 ∨ op = 17 ∨ op = 18 ∨ op = 19 ∨ op = 20 ∨ op = 21 ∨ op = 22 ∨ op = 23 ∨ op = 24 ∨ op = 25 ∨ op = 26 ∨ op = 27 ∨ op = 28 ∨ op = 29 ∨ op = 30 := by omega
    rcases this with rfl | rfl | rfl | rfl | rfl | rfl | rfl | rfl | rfl | rfl | rfl | rfl | rfl | rfl | rfl | rfl | rfl | rfl | rfl | rfl | rfl | rfl | rfl | rfl | rfl | rfl | rfl | rfl | rfl | rfl <;>
      (rw [Bool.eq_iff_iff]; simp [numQ, numB, inB, allowQ, kindN, kindM, lowQ, highQ]; first | done | omega)
  · have e1 : inB op 1 30 = false := by
      cases hi : inB op 1 30 with
      | false => rfl
      | true => exact absurd (inB_iff.1 hi) h
    simp [numQ, numB, e1]
theorem goQ_of {o : OC.Op} {r : List OC.Op} (h : goesOn o = true) : goQ o r = true := by
  simp [goesOn] at h
  unfold goQ
  rw [if_neg (by omega), if_neg (by omega), if_neg (by omega)]
theorem goQ_not {o : OC.Op} {r : List OC.Op} (h : goesOn o = false) (hg : goQ o r = true) : (o.op = 29 ∧ 0 < o.m) ∨ (o.op = 30 ∧ nx r = 30) := by
  unfold goQ at hg
  split at hg
  · cases hg
  · split at hg
    · rename_i h29; exact .inl ⟨h29, by simpa using hg⟩
    · split at hg
      · rename_i h30; exact .inr ⟨h30, by simpa using hg⟩
      · rename_i a b c
        have : goesOn o = true := by simp [goesOn]; omega
        rw [this] at h; cases h
theorem casQ_stuck {k : Int} {r : List OC.Op} (hk : 0 < k) (hr : nx r ≠ 30) : casQ k r = false := by
  cases r with
  | nil => simp [casQ]; omega
  | cons x r =>
    have hx : ¬ x.op = 30 := hr
    rw [casQ, if_pos (by rw [decide_eq_true hk, decide_eq_false hx]; simp)]
theorem ord_iff (P L : Int) : ∀ (r : List OC.Op) (first : Bool) (p l k : Int), (∀ o ∈ r, o.op = 29 → 0 ≤ o.m) → 0 ≤ k → (first = true → p = 0) → (first = false → 1 ≤ p) →
    (orderB first p l k r = some (P, L, 0) ↔ casQ k r = true ∧ proQ P p r = true ∧ folQ r = true ∧ maxL l r = L)
  | [], first, p, l, k, _, _, _, _ => by
    cases first <;> (simp only [orderB, casQ, proQ, folQ, maxL, Option.some.injEq, Prod.mk.injEq, decide_eq_true_eq]; constructor <;> (intro h; simp_all))
  | o :: r, first, p, l, k, hm, hk, hf, hn => by
    have hm' : ∀ x ∈ r, x.op = 29 → 0 ≤ x.m := fun x hx => hm x (List.mem_cons_of_mem _ hx)
    have h29 : o.op = 29 → 0 ≤ o.m := hm o (List.mem_cons_self ..)
    have ob : orderB first p l k (o :: r) = (if decide (0 < k) ≠ decide (o.op = 30) then none
      else if o.op = 24 ∧ o.n ≠ p + 1 then none
      else if o.op = 19 ∧ ¬ (nx r = 18 ∨ nx r = 28 ∨ nx r = 19) then none
      else if goesOn o = true ∧ nx r = 24 then none
      else if first = true ∧ o.op ≠ 24 then none
      else orderB false (if o.op = 24 then p + 1 else p) (if o.op = 19 then max l o.n else l) (if o.op = 29 then o.m else if 0 < k then k - 1 else k) r) := by cases first <;> rfl
    rw [ob, casQ, proQ, folQ, maxL]
    by_cases c1 : decide (0 < k) ≠ decide (o.op = 30)
    · rw [if_pos c1, if_pos (fun e => c1 e.symm)]; simp
    rw [if_neg c1, if_neg (c := decide (o.op = 30) ≠ decide (0 < k)) (fun e => c1 (fun x => e x.symm))]
    have c1' : (0 < k) ↔ o.op = 30 := by
      have : decide (0 < k) = decide (o.op = 30) := Classical.byContradiction c1
      constructor
      · intro h; rw [decide_eq_true h] at this; exact of_decide_eq_true this.symm
      · intro h; rw [decide_eq_true h] at this; exact of_decide_eq_true this
    by_cases c2 : o.op = 24 ∧ o.n ≠ p + 1
    · rw [if_pos c2, if_pos (c := _ ∨ _) (.inr ⟨c2.1, by rw [if_pos c2.1]; exact c2.2⟩)]; simp
    rw [if_neg c2]
    by_cases c3 : o.op = 19 ∧ ¬ (nx r = 18 ∨ nx r = 28 ∨ nx r = 19)
    · rw [if_pos c3, if_pos c3]; simp
    rw [if_neg c3, if_neg c3]
    by_cases c5 : first = true ∧ o.op ≠ 24
    · have hp := hf c5.1
      rw [if_pos (c := (if o.op = 24 then p + 1 else p) = 0 ∨ _) (.inl (by rw [if_neg c5.2]; exact hp))]
      rw [if_pos c5]
      constructor
      · intro h; split at h <;> cases h
      · intro h; simp at h
    have hp1 : 1 ≤ (if o.op = 24 then p + 1 else p) := by
      by_cases h24 : o.op = 24
      · rw [if_pos h24]
        cases first with
        | true => have := hf rfl; omega
        | false => have := hn rfl; omega
      · rw [if_neg h24]
        cases first with
        | true => exact absurd ⟨rfl, h24⟩ c5
        | false => exact hn rfl
    rw [if_neg (c := (if o.op = 24 then p + 1 else p) = 0 ∨ _) (by
      rintro (h | ⟨h, h'⟩)
      · omega
      · rw [if_pos h] at h'; exact c2 ⟨h, h'⟩)]
    by_cases c4 : goesOn o = true ∧ nx r = 24
    · rw [if_pos c4, if_pos (c := nx r = 24 ∧ goQ o r = true) ⟨c4.2, goQ_of c4.1⟩]; simp
    rw [if_neg c4, if_neg c5]
    have hk2 : (if o.op = 29 then o.m else if 0 < k then k - 1 else k) = (if o.op = 30 then k - 1 else if o.op = 29 then o.m else k) := by
      by_cases h30 : o.op = 30
      · rw [if_neg (by omega), if_pos (c1'.2 h30), if_pos h30]
      · by_cases h9 : o.op = 29
        · rw [if_pos h9, if_neg h30, if_pos h9]
        · rw [if_neg h9, if_neg (fun h => h30 (c1'.1 h)), if_neg h30, if_neg h9]
    have hk3 : 0 ≤ (if o.op = 30 then k - 1 else if o.op = 29 then o.m else k) := by
      split
      · have := c1'.2 (by assumption); omega
      · split
        · exact h29 (by assumption)
        · exact hk
    rw [hk2]
    have ih := ord_iff P L r false (if o.op = 24 then p + 1 else p) (if o.op = 19 then max l o.n else l) _ hm' hk3 (fun h => by cases h) (fun _ => hp1)
    by_cases c6 : nx r = 24 ∧ goQ o r = true
    · rw [if_pos c6, ih]
      have hgo : goesOn o = false := by
        cases h : goesOn o with
        | false => rfl
        | true => exact absurd ⟨h, c6.1⟩ c4
      rcases goQ_not hgo c6.2 with ⟨h9, hm0⟩ | ⟨h30, hx⟩
      · rw [if_neg (by omega), if_pos h9, casQ_stuck hm0 (by rw [c6.1]; omega)]
        simp
      · rw [c6.1] at hx; omega
    · rw [if_neg c6]; exact ih
/-- the table of homes and that of places tell the same -/
def HomR (q h t : List Int) : Prop := h.length = t.length ∧ ∀ v : Nat, (h.getD v 0 ≠ 0 ↔ 0 ≤ t.getD v (-1)) ∧ (0 ≤ t.getD v (-1) → q.getD (t.getD v (-1)).toNat 0 = h.getD v 0)
theorem getD_drop' {q : List Int} {i : Nat} {x : Int} {r : List Int} (h : q.drop i = x :: r) : q.getD i 0 = x ∧ q.drop (i + 1) = r := by
  constructor
  · have : q[i]? = some x := by have := List.getElem?_drop (xs := q) (i := i) (j := 0); rw [h] at this; simpa using this.symm
    rw [List.getD_eq_getElem?_getD, this]; rfl
  · have : (q.drop i).drop 1 = r := by rw [h]; rfl
    rwa [List.drop_drop] at this
theorem hom_plc (P labels : Int) (q : List Int) : ∀ (r : List OC.Op) (i : Nat) (p : Int) (h t : List Int), proQ P p r = true → 0 ≤ p → (∀ v ∈ lbs r, 1 ≤ v ∧ v < (t.length : Int)) → q.drop i = prc p r → HomR q h t →
    (∀ h', homQ p r h = some h' → folQ r = true ∧ ∃ t', plc r i t = some t' ∧ HomR q h' t') ∧ (folQ r = true → ∀ t', plc r i t = some t' → ∃ h', homQ p r h = some h' ∧ HomR q h' t')
  | [], i, p, h, t, _, _, _, _, hR => by
    refine ⟨fun h' e => ?_, fun _ t' e => ?_⟩
    · simp only [homQ, Option.some.injEq] at e; subst e; exact ⟨rfl, t, rfl, hR⟩
    · simp only [plc, Option.some.injEq] at e; subst e; exact ⟨h, rfl, hR⟩
  | o :: r, i, p, h, t, hp, h0, hv, hq, hR => by
    rw [prc] at hq
    obtain ⟨hq1, hq2⟩ := getD_drop' hq
    rw [proQ] at hp
    by_cases a1 : (if o.op = 24 then p + 1 else p) = 0 ∨ (o.op = 24 ∧ o.n ≠ (if o.op = 24 then p + 1 else p))
    · rw [if_pos a1] at hp; cases hp
    rw [if_neg a1] at hp
    split at hp
    · cases hp
    have hv' : ∀ v ∈ lbs r, 1 ≤ v ∧ v < (t.length : Int) := fun v hv2 => hv v (by rw [lbs]; split <;> simp [hv2])
    rw [homQ, folQ, plc]
    by_cases h24 : o.op = 24
    · have hn : o.n = p + 1 := Classical.byContradiction fun hh => a1 (.inr ⟨h24, by rw [if_pos h24]; exact hh⟩)
      rw [if_pos h24] at hp hq2 ⊢
      rw [if_neg (by omega), if_neg (by omega), hn]
      exact hom_plc P labels q r (i + 1) (p + 1) h t hp (by omega) hv' hq2 hR
    rw [if_neg h24] at hp hq1 hq2 a1 ⊢
    by_cases h19 : o.op = 19
    · rw [if_pos h19, if_pos h19]
      have hvn := hv o.n (by rw [lbs, if_pos h19]; exact List.mem_cons_self ..)
      have hRn := hR.2 o.n.toNat
      by_cases hd : 0 ≤ t.getD o.n.toNat (-1)
      · rw [if_pos (.inl (hRn.1.2 hd)), if_pos hd]
        exact ⟨fun h' e => by (cases e), fun _ t' e => by (cases e)⟩
      · by_cases hfo : nx r = 18 ∨ nx r = 28 ∨ nx r = 19
        · rw [if_neg (c := _ ∨ ¬ _) (fun hx => hx.elim (fun hh => hd (hRn.1.1 hh)) (fun hh => hh hfo)), if_neg (c := _ ∧ ¬ _) (fun hh => hh.2 hfo), if_neg hd]
          have hlt : o.n.toNat < t.length := by omega
          refine hom_plc P labels q r (i + 1) p (h.set o.n.toNat p) (t.set o.n.toNat i) hp h0 (by rw [List.length_set]; exact hv') hq2 ⟨by rw [List.length_set, List.length_set]; exact hR.1, fun v => ?_⟩
          by_cases hvo : o.n.toNat = v
          · subst hvo
            rw [getD_set_self (by rw [hR.1]; exact hlt), getD_set_self hlt]
            exact ⟨⟨fun _ => by omega, fun _ => by omega⟩, fun _ => by rw [Int.toNat_natCast]; exact hq1⟩
          · rw [getD_set_ne hvo, getD_set_ne hvo]; exact hR.2 v
        · rw [if_pos (.inr hfo), if_pos ⟨h19, hfo⟩]
          exact ⟨fun h' e => by (cases e), fun e => by (cases e)⟩
    · rw [if_neg h19, if_neg h19, if_neg (c := _ ∧ _) (fun hh => h19 hh.1)]
      exact hom_plc P labels q r (i + 1) p h t hp h0 hv' hq2 hR
theorem nam_iff (P : Int) (q h t : List Int) (hR : HomR q h t) : ∀ (r : List OC.Op) (p : Int), proQ P p r = true → 0 ≤ p → (∀ o ∈ r, label o = 0 ∨ 1 ≤ label o) → (namQ h p r = true ↔ namedB t q r (prc p r) = true)
  | [], p, _, _, _ => by simp [namQ, namedB]
  | o :: r, p, hp, h0, hl => by
    rw [proQ] at hp
    by_cases a1 : (if o.op = 24 then p + 1 else p) = 0 ∨ (o.op = 24 ∧ o.n ≠ (if o.op = 24 then p + 1 else p))
    · rw [if_pos a1] at hp; cases hp
    rw [if_neg a1] at hp
    split at hp
    · cases hp
    have e : (if o.op = 24 then o.n else p) = (if o.op = 24 then p + 1 else p) := by
      by_cases h24 : o.op = 24
      · rw [if_pos h24, if_pos h24]
        exact Classical.byContradiction fun hh => a1 (.inr ⟨h24, by rw [if_pos h24]; exact hh⟩)
      · rw [if_neg h24, if_neg h24]
    rw [namQ, prc, namedB, e]
    have hp0 : (if o.op = 24 then p + 1 else p) ≠ 0 := fun hh => a1 (.inl hh)
    have hp1 : 0 ≤ (if o.op = 24 then p + 1 else p) := by split <;> omega
    generalize (if o.op = 24 then p + 1 else p) = p' at hp hp0 hp1 ⊢
    have ih := nam_iff P q h t hR r p' hp hp1 (fun x hx => hl x (List.mem_cons_of_mem _ hx))
    rw [Bool.and_eq_true, Bool.and_eq_true, ih]
    have key : ((decide (label o = 0) || decide (h.getD (label o).toNat 0 = p')) = true ↔ (decide (label o ≤ 0) || (decide (0 ≤ t.getD (label o).toNat (-1)) && decide (q.getD (t.getD (label o).toNat (-1)).toNat 0 = p'))) = true) := by
      have hRv := hR.2 (label o).toNat
      rcases hl o (List.mem_cons_self ..) with hz | hz
      · rw [hz]; simp
      · simp only [Bool.or_eq_true, Bool.and_eq_true, decide_eq_true_eq]
        constructor
        · rintro (hh | hh)
          · omega
          · have := hRv.1.1 (by rw [hh]; exact hp0)
            exact .inr ⟨this, by rw [hRv.2 this]; exact hh⟩
        · rintro (hh | ⟨h1, h2⟩)
          · omega
          · exact .inr (by rw [← hRv.2 h1]; exact h2)
    rw [key]
theorem namQ_start {h : List Int} {r : List OC.Op} (hr : nx r = 24) (p p' : Int) : namQ h p r = namQ h p' r := by
  cases r with
  | nil => rfl
  | cons o r =>
    have h24 : o.op = 24 := hr
    rw [namQ, namQ, if_pos h24, if_pos h24]
theorem proQ_start {P : Int} {r : List OC.Op} (h : proQ P 0 r = true) : nx r = 24 := by
  cases r with
  | nil => rfl
  | cons o r =>
    rw [proQ] at h
    show o.op = 24
    refine Classical.byContradiction fun hh => ?_
    rw [if_pos (.inl (by rw [if_neg hh]))] at h
    cases h
theorem maxL_ge : ∀ (r : List OC.Op) (l : Int), l ≤ maxL l r ∧ ∀ v ∈ lbs r, v ≤ maxL l r
  | [], l => ⟨Int.le_refl _, fun v hv => by simp [lbs] at hv⟩
  | o :: r, l => by
    rw [maxL, lbs]
    obtain ⟨h1, h2⟩ := maxL_ge r (if o.op = 19 then max l o.n else l)
    by_cases h19 : o.op = 19
    · rw [if_pos h19] at h1 h2 ⊢
      rw [if_pos h19]
      refine ⟨by omega, fun v hv => ?_⟩
      rcases List.mem_cons.1 hv with rfl | hv
      · omega
      · exact h2 v hv
    · rw [if_neg h19] at h1 h2 ⊢
      rw [if_neg h19]; exact ⟨h1, h2⟩
theorem maxL_mem : ∀ (r : List OC.Op) (l : Int), maxL l r = l ∨ maxL l r ∈ lbs r
  | [], l => .inl rfl
  | o :: r, l => by
    rw [maxL, lbs]
    by_cases h19 : o.op = 19
    · rw [if_pos h19, if_pos h19]
      rcases maxL_mem r (max l o.n) with h | h
      · rw [h]
        by_cases hm : o.n ≤ l
        · exact .inl (by omega)
        · exact .inr (by rw [show max l o.n = o.n by omega]; exact List.mem_cons_self ..)
      · exact .inr (List.mem_cons_of_mem _ h)
    · rw [if_neg h19, if_neg h19]; exact maxL_mem r l
theorem hom_mem : ∀ (r : List OC.Op) (p P : Int) (h h' : List Int), proQ P p r = true → 0 ≤ p → (∀ v ∈ lbs r, 1 ≤ v ∧ v < (h.length : Int)) → homQ p r h = some h' →
    (∀ v ∈ lbs r, h'.getD v.toNat 0 ≠ 0) ∧ (∀ v : Int, 0 ≤ v → h.getD v.toNat 0 ≠ 0 → h'.getD v.toNat 0 ≠ 0) ∧ (∀ v : Int, 0 ≤ v → h'.getD v.toNat 0 ≠ 0 → h.getD v.toNat 0 ≠ 0 ∨ v ∈ lbs r)
  | [], p, P, h, h', _, _, _, e => by
    simp only [homQ, Option.some.injEq] at e; subst e
    exact ⟨fun v hv => by simp [lbs] at hv, fun _ _ h => h, fun _ _ h => .inl h⟩
  | o :: r, p, P, h, h', hp, h0, hv, e => by
    rw [proQ] at hp
    by_cases a1 : (if o.op = 24 then p + 1 else p) = 0 ∨ (o.op = 24 ∧ o.n ≠ (if o.op = 24 then p + 1 else p))
    · rw [if_pos a1] at hp; cases hp
    rw [if_neg a1] at hp
    split at hp
    · cases hp
    have hv' : ∀ v ∈ lbs r, 1 ≤ v ∧ v < (h.length : Int) := fun v hv2 => hv v (by rw [lbs]; split <;> simp [hv2])
    rw [homQ] at e
    by_cases h24 : o.op = 24
    · have hn : o.n = p + 1 := Classical.byContradiction fun hh => a1 (.inr ⟨h24, by rw [if_pos h24]; exact hh⟩)
      rw [if_pos h24] at hp e
      rw [hn] at e
      have := hom_mem r (p + 1) P h h' hp (by omega) hv' e
      rw [lbs, if_neg (by omega)]; exact this
    rw [if_neg h24] at hp a1 e
    by_cases h19 : o.op = 19
    · rw [if_pos h19] at e
      split at e
      · cases e
      · have hvn := hv o.n (by rw [lbs, if_pos h19]; exact List.mem_cons_self ..)
        have hlt : o.n.toNat < h.length := by omega
        obtain ⟨i1, i2, i3⟩ := hom_mem r p P (h.set o.n.toNat p) h' hp h0 (by rw [List.length_set]; exact hv') e
        rw [lbs, if_pos h19]
        refine ⟨fun v hv3 => ?_, fun v h0v hne => ?_, fun v h0v hne => ?_⟩
        · rcases List.mem_cons.1 hv3 with rfl | hv3
          · exact i2 _ (by omega) (by rw [getD_set_self hlt]; exact fun hh => a1 (.inl hh))
          · exact i1 v hv3
        · refine i2 v h0v ?_
          by_cases hvo : o.n.toNat = v.toNat
          · rw [← hvo, getD_set_self hlt]; exact fun hh => a1 (.inl hh)
          · rw [getD_set_ne hvo]; exact hne
        · rcases i3 v h0v hne with hh | hh
          · by_cases hvo : o.n.toNat = v.toNat
            · exact .inr (by rw [show v = o.n by omega]; exact List.mem_cons_self ..)
            · rw [getD_set_ne hvo] at hh; exact .inl hh
          · exact .inr (List.mem_cons_of_mem _ hh)
    · rw [if_neg h19] at e
      rw [lbs, if_neg h19]
      exact hom_mem r p P h h' hp h0 hv' e
theorem maxL_iff {labels P : Int} {r : List OC.Op} {h' : List Int} {h : List Int} (hz : ∀ v : Nat, h.getD v 0 = 0) (hp : proQ P 0 r = true) (hv : ∀ v ∈ lbs r, 1 ≤ v ∧ v ≤ labels) (hv2 : ∀ v ∈ lbs r, 1 ≤ v ∧ v < (h.length : Int)) (e : homQ 0 r h = some h') :
    (decide (labels = 0) || (decide (0 < labels) && decide (h'.getD labels.toNat 0 ≠ 0))) = true ↔ maxL 0 r = labels := by
  obtain ⟨i1, i2, i3⟩ := hom_mem r 0 P h h' hp (Int.le_refl _) hv2 e
  obtain ⟨m1, m2⟩ := maxL_ge r 0
  simp only [Bool.or_eq_true, Bool.and_eq_true, decide_eq_true_eq]
  constructor
  · rintro (rfl | ⟨h1, h2⟩)
    · rcases maxL_mem r 0 with hm | hm
      · exact hm
      · have := hv _ hm; omega
    · rcases i3 labels (by omega) h2 with hh | hh
      · exact absurd (hz _) hh
      · have k1 := m2 _ hh
        rcases maxL_mem r 0 with hm | hm
        · omega
        · have := hv _ hm; omega
  · intro hm
    rcases maxL_mem r 0 with h1 | h1
    · exact .inl (by omega)
    · refine .inr ⟨?_, ?_⟩
      · have := hv _ h1; omega
      · rw [hm] at h1; exact i1 _ h1
theorem lbs_of_numB {nd procs labels : Int} {r : List OC.Op} (h : ∀ o ∈ r, numB nd procs labels o = true) : ∀ v ∈ lbs r, 1 ≤ v ∧ v ≤ labels := by
  intro v hv
  obtain ⟨o, ho, h19, rfl⟩ := mem_lbs.1 hv
  have := h o ho
  obtain ⟨op, n, m⟩ := o
  dsimp only at h19
  subst h19
  simp [numB, inB] at this ⊢
  omega
theorem label_of_numB {nd procs labels : Int} {o : OC.Op} (h : numB nd procs labels o = true) : label o = 0 ∨ (1 ≤ label o ∧ label o ≤ labels) := by
  obtain ⟨op, n, m⟩ := o
  have h0 := h
  simp only [numB, Bool.and_eq_true, inB_iff] at h0
  obtain ⟨⟨⟨⟨h1, -⟩, -⟩, -⟩, h2⟩ := h0
  clear h
  unfold label
  dsimp only at h1 h2 ⊢
  by_cases a : op = 20 ∨ op = 21 ∨ op = 22 ∨ op = 27 ∨ op = 29
  · rw [if_pos a]
    right
    rcases a with rfl | rfl | rfl | rfl | rfl <;> (simp [inB] at h2; omega)
  · rw [if_neg a]
    by_cases b : op = 30
    · subst b
      rw [if_pos rfl]
      right
      simp [inB] at h2; omega
    · rw [if_neg b]; exact .inl rfl
theorem m_of_numB {nd procs labels : Int} {o : OC.Op} (h : numB nd procs labels o = true) : (o.op = 29 → 0 ≤ o.m) ∧ (o.op = 24 → 0 ≤ o.m ∧ o.m ≤ 8) := by
  obtain ⟨op, n, m⟩ := o
  constructor
  · intro e; dsimp only at e ⊢; subst e; simp [numB, inB] at h; omega
  · intro e; dsimp only at e ⊢; subst e; simp [numB, inB] at h; omega
theorem rep_getD (n v : Nat) (x : Int) : (List.replicate n x).getD v x = x := by
  simp only [List.getD_eq_getElem?_getD, List.getElem?_replicate]
  split <;> simp
/-- whether labels are as said: the program's way and the document's -/
theorem lab_iff {procs labels nd : Int} {r : List OC.Op} (hn : ∀ o ∈ r, numB nd procs labels o = true) (hc : casQ 0 r = true) (hp : proQ procs 0 r = true) :
    labQ labels r = true ↔ 0 ≤ labels ∧ orderB true 0 0 0 r = some (procs, labels, 0) ∧ ∃ t, plc r 0 (List.replicate (labels + 1).toNat (-1)) = some t ∧ namedB t (prc 0 r) r (prc 0 r) = true := by
  have hlb := lbs_of_numB hn
  have hlen : ((List.replicate ((max labels 0).toNat + 1) (0 : Int)).length : Int) = max labels 0 + 1 := by rw [List.length_replicate]; omega
  by_cases hl : 0 ≤ labels
  case neg =>
    constructor
    · intro h
      unfold labQ at h
      split at h
      · cases h
      · simp only [Bool.and_eq_true, Bool.or_eq_true, decide_eq_true_eq] at h
        omega
    · intro h; exact absurd h.1 hl
  have hlr : (max labels 0).toNat + 1 = (labels + 1).toNat := by omega
  have hR : HomR (prc 0 r) (List.replicate (labels + 1).toNat 0) (List.replicate (labels + 1).toNat (-1)) :=
    ⟨by rw [List.length_replicate, List.length_replicate], fun v => by rw [rep_getD, rep_getD]; exact ⟨⟨fun h => absurd rfl h, fun h => by omega⟩, fun h => by omega⟩⟩
  have hvt : ∀ v ∈ lbs r, 1 ≤ v ∧ v < ((List.replicate (labels + 1).toNat (-1 : Int)).length : Int) := fun v hv => by have := hlb v hv; rw [List.length_replicate]; omega
  have hvh : ∀ v ∈ lbs r, 1 ≤ v ∧ v < ((List.replicate (labels + 1).toNat (0 : Int)).length : Int) := fun v hv => by have := hlb v hv; rw [List.length_replicate]; omega
  obtain ⟨k1, k2⟩ := hom_plc procs labels (prc 0 r) r 0 0 _ _ hp (Int.le_refl _) hvt (by rfl) hR
  have ho := ord_iff procs labels r true 0 0 0 (fun o h => (m_of_numB (hn o h)).1) (Int.le_refl _) (fun _ => rfl) (fun h => by cases h)
  have hla : ∀ o ∈ r, label o = 0 ∨ 1 ≤ label o := fun o h => by rcases label_of_numB (hn o h) with h | h <;> omega
  unfold labQ
  rw [hlr]
  constructor
  · intro h
    split at h
    · cases h
    · rename_i h' e
      rw [Bool.and_eq_true] at h
      obtain ⟨hf, t', ht, hR'⟩ := k1 h' e
      have hmax := (maxL_iff (fun v => rep_getD _ _ _) hp hlb hvh e).1 h.2
      have hnam := h.1
      rw [namQ_start (proQ_start hp) _ 0, nam_iff procs (prc 0 r) h' t' hR' r 0 hp (Int.le_refl _) hla] at hnam
      exact ⟨hl, ho.2 ⟨hc, hp, hf, hmax⟩, t', ht, hnam⟩
  · rintro ⟨-, hor, t', ht, hnam⟩
    obtain ⟨-, -, hf, hmax⟩ := ho.1 hor
    obtain ⟨h', e, hR'⟩ := k2 hf t' ht
    rw [e]
    dsimp only
    rw [Bool.and_eq_true, namQ_start (proQ_start hp) _ 0, nam_iff procs (prc 0 r) h' t' hR' r 0 hp (Int.le_refl _) hla]
    exact ⟨hnam, (maxL_iff (fun v => rep_getD _ _ _) hp hlb hvh e).2 hmax⟩
/-- the table of places: what the program has for labels that are there -/
theorem pla_plc : ∀ (r : List OC.Op) (i : Nat) (h t t' : List Int), h.length = t.length → (∀ v : Nat, 0 ≤ t.getD v (-1) → h.getD v 0 = t.getD v (-1)) → plc r i t = some t' → ∀ v : Nat, 0 ≤ t'.getD v (-1) → (plaQ i r h).getD v 0 = t'.getD v (-1)
  | [], i, h, t, t', hl, hr, e => by
    simp only [plc, Option.some.injEq] at e; subst e; exact hr
  | o :: r, i, h, t, t', hl, hr, e => by
    rw [plc] at e
    rw [plaQ]
    by_cases h19 : o.op = 19
    · rw [if_pos h19] at e ⊢
      split at e
      · cases e
      · refine pla_plc r (i + 1) (h.set o.n.toNat i) (t.set o.n.toNat i) t' (by rw [List.length_set, List.length_set]; exact hl) (fun v hv => ?_) e
        by_cases hvo : o.n.toNat = v
        · subst hvo
          by_cases hlt : o.n.toNat < t.length
          · rw [getD_set_self (by rw [hl]; exact hlt), getD_set_self hlt]
          · rw [List.getD_eq_getElem?_getD, List.getElem?_eq_none (by rw [List.length_set]; omega)] at hv
            simp at hv
        · rw [getD_set_ne hvo] at hv ⊢
          rw [getD_set_ne hvo]; exact hr v hv
    · rw [if_neg h19] at e ⊢
      exact pla_plc r (i + 1) h t t' hl hr e
theorem kep_iff {o : OC.Op} {d pv : Int} (h24 : o.op ≠ 24) (hd : 2 ≤ d) :
    kepB o d pv = true ↔ ¬ (d - needs o < 2 ∨ inB (after o d) 2 4000 = false ∨ (¬ (o.op = 18 ∧ pv = 19) ∧ localB o d = false)) := by
  have e1 : inB (after o d) 2 4000 = false ↔ ¬ (2 ≤ after o d ∧ after o d ≤ 4000) := by
    rw [← Bool.not_eq_true, inB_iff]
  rw [e1]
  unfold kepB
  simp only [Bool.and_eq_true, Bool.not_eq_true', Bool.and_eq_false_iff, decide_eq_true_eq, decide_eq_false_iff_not]
  by_cases c1 : o.op = 2 ∨ o.op = 3
  · have e : fitQ o d = localB o d := by simp only [fitQ, localB, inB]; rw [if_pos c1, if_pos c1, show decide (o.n < d) = decide (o.n ≤ d - 1) from by by_cases hh : o.n < d <;> simp [hh] <;> omega]
    have e2 : needs o ≤ 1 ∧ (needs o = 1 → after o d = d - 1) := by
      rcases c1 with c | c <;> simp [needs, after, c]
    rw [e]
    cases hl : localB o d <;> simp <;> omega
  by_cases c2 : o.op = 4
  · have e : fitQ o d = localB o d := by simp [fitQ, localB, c2]
    have e2 : needs o = 0 := by simp [needs, c2]
    rw [e, e2]
    cases hl : localB o d <;> simp <;> omega
  by_cases c3 : o.op = 23
  · have e : fitQ o d = localB o d := by simp only [fitQ, localB, inB]; rw [if_neg (by omega), if_neg (by omega), if_pos c3, if_neg (by omega), if_neg (by omega), if_pos c3, show decide (o.n + 2 < d) = decide (o.n ≤ d - 3) from by by_cases hh : o.n + 2 < d <;> simp [hh] <;> omega]
    have e2 : needs o = 0 := by simp [needs, c3]
    rw [e, e2]
    cases hl : localB o d <;> simp <;> omega
  by_cases c4 : o.op = 18
  · have e : fitQ o d = true := by unfold fitQ; rw [if_neg (by omega), if_neg (by omega), if_neg (by omega), if_neg (by omega), if_neg (by omega)]
    have e2 : needs o = 0 := by simp [needs, c4]
    have e3 : localB o d = decide (o.n ≤ d + 2002) := by unfold localB; rw [if_neg (by omega), if_neg (by omega), if_neg (by omega), if_pos c4]
    rw [e, e2, e3]
    by_cases hp : pv = 19 <;> by_cases hh : o.n ≤ d + 2002 <;> simp [c4, hp, hh] <;> omega
  have e3 : localB o d = true := by unfold localB; rw [if_neg (by omega), if_neg (by omega), if_neg (by omega), if_neg (by omega)]
  rw [e3]
  by_cases c5 : o.op = 12 ∨ o.op = 17
  · have e : fitQ o d = decide (2 < d) := by unfold fitQ; rw [if_neg (by omega), if_neg (by omega), if_neg (by omega), if_pos c5]
    have e2 : needs o = 1 := by rcases c5 with c | c <;> simp [needs, c]
    rw [e, e2]; simp; omega
  by_cases c6 : o.op = 16 ∨ o.op = 14
  · have e : fitQ o d = decide (3 < d) := by unfold fitQ; rw [if_neg (by omega), if_neg (by omega), if_neg (by omega), if_neg (by omega), if_pos c6]
    have e2 : needs o = 2 := by rcases c6 with c | c <;> simp [needs, c]
    rw [e, e2]; simp; omega
  have e : fitQ o d = true := by unfold fitQ; rw [if_neg (by omega), if_neg (by omega), if_neg (by omega), if_neg (by omega), if_neg (by omega)]
  rw [e]
  have e2 : (needs o = 0) ∨ (0 ≤ needs o ∧ after o d = d - needs o) := by
    by_cases d1 : o.op = 6 ∨ o.op = 9 ∨ o.op = 21 ∨ o.op = 22 ∨ o.op = 29 ∨ o.op = 25 ∨ o.op = 27
    · right; rcases d1 with c | c | c | c | c | c | c <;> simp [needs, after, c]
    by_cases d2 : o.op = 13
    · right; simp [needs, after, d2]
    by_cases d3 : o.op = 15
    · right; simp [needs, after, d3]
    left; unfold needs; rw [if_neg (by omega), if_neg (by omega), if_neg (by omega)]
  simp; omega
theorem landsB_nx {r : List OC.Op} (h : landsB r = true) : nx r = 19 ∨ nx r = 28 := by
  cases r with
  | nil => cases h
  | cons o r =>
    rw [landsB] at h
    show o.op = 19 ∨ o.op = 28
    split at h
    · exact .inl (by assumption)
    · exact .inr (by simpa using h)
theorem deep_iff {nd procs labels : Int} (ops : List OC.Op) (t q : List Int) (hq : ∀ v : Nat, 0 ≤ t.getD v (-1) → q.getD v 0 = t.getD v (-1)) : ∀ (r : List OC.Op) (d : Int) (fr : Bool) (pv : OC.Op) (k : Int), (∀ o ∈ r, numB nd procs labels o = true) → (∀ o ∈ r, 0 < label o → 0 ≤ t.getD (label o).toNat (-1)) →
    casQ k r = true → 0 ≤ k → (2 ≤ d ∨ nx r = 24) → (deepB ops t d fr pv r = true ↔ kepQ d pv.op r = true ∧ reaQ ops q r = true ∧ ¬ (fr = true ∧ landsB r = true))
  | [], d, fr, pv, k, _, _, _, _, _ => by simp [deepB, kepQ, reaQ, landsB]
  | o :: r, d, fr, pv, k, hn, hl, hc, hk, hd => by
    have hn' : ∀ x ∈ r, numB nd procs labels x = true := fun x hx => hn x (List.mem_cons_of_mem _ hx)
    have hl' : ∀ x ∈ r, 0 < label x → 0 ≤ t.getD (label x).toNat (-1) := fun x hx => hl x (List.mem_cons_of_mem _ hx)
    have ho := hn o (List.mem_cons_self ..)
    obtain ⟨m29, m24⟩ := m_of_numB ho
    rw [casQ] at hc
    split at hc
    · cases hc
    rename_i hck
    have hck' : o.op = 30 ↔ 0 < k := by
      have : decide (o.op = 30) = decide (0 < k) := Classical.byContradiction hck
      constructor
      · intro h; rw [decide_eq_true h] at this; exact of_decide_eq_true this.symm
      · intro h; rw [decide_eq_true h] at this; exact of_decide_eq_true this
    have hk' : 0 ≤ (if o.op = 30 then k - 1 else if o.op = 29 then o.m else k) := by
      split
      · rename_i h; have := hck'.1 h; omega
      · split
        · exact m29 (by assumption)
        · exact hk
    have hgo : (goQ o r = true ∧ landsB r = true) ↔ (goesOn o = true ∧ landsB r = true) := by
      constructor
      · rintro ⟨h1, h2⟩
        refine ⟨?_, h2⟩
        cases hg : goesOn o with
        | true => rfl
        | false =>
          exfalso
          have hx := landsB_nx h2
          rcases goQ_not hg h1 with ⟨h9, hm0⟩ | ⟨h30, hx3⟩
          · rw [if_neg (by omega), if_pos h9, casQ_stuck hm0 (by omega)] at hc
            cases hc
          · omega
      · rintro ⟨h1, h2⟩; exact ⟨goQ_of h1, h2⟩
    rw [kepQ, reaQ]
    have eb : deepB ops t d fr pv (o :: r) = (if o.op = 24 then deepB ops t (2 + o.m) true o r
      else if d - needs o < 2 ∨ inB (after o d) 2 4000 = false ∨ (¬ (o.op = 18 ∧ pv.op = 19) ∧ localB o d = false) then false
      else if o.op = 28 ∧ fr = true then false
      else if 0 < label o ∧ landsB (ops.drop (t.getD (label o).toNat (-1)).toNat) ≠ decide (o.op = 27) then false
      else deepB ops t (after o d) (if o.op ≠ 19 then goesOn o else fr) o r) := rfl
    rw [eb]
    by_cases h24 : o.op = 24
    · obtain ⟨h0, h8⟩ := m24 h24
      have ea : after o 0 = 2 + o.m := by obtain ⟨op, n, m⟩ := o; simp only at h24; subst h24; exact after_enter
      have el : label o = 0 := by simp [label, h24]
      have eL : landsB (o :: r) = false := by rw [landsB, if_neg (by omega)]; simp [h24]
      have eg : goesOn o = true := by simp [goesOn, h24]
      have ek : kepB o 0 pv.op = true := by simp [kepB, ea, fitQ, h24]; omega
      rw [if_pos h24, if_pos h24, ea, ek, el, eL, deep_iff ops t q hq r (2 + o.m) true o _ hn' hl' hc hk' (.inl (by omega))]
      rw [if_neg (by simp)]
      by_cases hL : landsB r = true
      · rw [if_pos ⟨by omega, goQ_of eg, hL⟩]; simp [hL]
      · rw [if_neg (fun hh => hL hh.2.2)]; simp [hL]
    have hd2 : 2 ≤ d := by
      rcases hd with h | h
      · exact h
      · exact absurd h h24
    rw [if_neg h24, if_neg h24]
    have hkep := kep_iff (pv := pv.op) h24 hd2
    by_cases b1 : d - needs o < 2 ∨ inB (after o d) 2 4000 = false ∨ (¬ (o.op = 18 ∧ pv.op = 19) ∧ localB o d = false)
    · rw [if_pos b1]
      have : kepB o d pv.op = false := by
        cases hb : kepB o d pv.op with
        | false => rfl
        | true => exact absurd b1 (hkep.1 hb)
      rw [this]; simp
    rw [if_neg b1, hkep.2 b1, Bool.true_and]
    have hin : 2 ≤ after o d := by
      have : inB (after o d) 2 4000 = true := by
        cases hi : inB (after o d) 2 4000 with
        | true => rfl
        | false => exact absurd (.inr (.inl hi)) b1
      exact (inB_iff.1 this).1
    have hlab : (0 < label o ∧ landsB (ops.drop (t.getD (label o).toNat (-1)).toNat) ≠ decide (o.op = 27)) ↔ (label o ≠ 0 ∧ landsB (ops.drop (q.getD (label o).toNat 0).toNat) ≠ decide (o.op = 27)) := by
      rcases label_of_numB ho with hz | hz
      · rw [hz]; simp
      · have h0 := hl o (List.mem_cons_self ..) (by omega)
        rw [hq _ h0]
        constructor
        · rintro ⟨_, h⟩; exact ⟨by omega, h⟩
        · rintro ⟨_, h⟩; exact ⟨by omega, h⟩
    have ih := deep_iff ops t q hq r (after o d) (if o.op ≠ 19 then goesOn o else fr) o _ hn' hl' hc hk' (.inl hin)
    by_cases h28 : o.op = 28
    · have eL : landsB (o :: r) = true := by rw [landsB, if_neg (by omega)]; simp [h28]
      rw [eL]
      by_cases hfr : fr = true
      · rw [if_pos ⟨h28, hfr⟩, hfr]; simp
      rw [if_neg (fun hh => hfr hh.2)]
      by_cases b2 : 0 < label o ∧ landsB (ops.drop (t.getD (label o).toNat (-1)).toNat) ≠ decide (o.op = 27)
      · rw [if_pos b2, if_pos (hlab.1 b2)]; simp
      rw [if_neg b2, if_neg (fun hh => b2 (hlab.2 hh)), ih]
      rw [if_pos (by omega)]
      by_cases hL : goesOn o = true ∧ landsB r = true
      · rw [if_pos ⟨by omega, (hgo.2 hL).1, hL.2⟩]; simp [hL]
      · rw [if_neg (fun hh => hL (hgo.1 ⟨hh.2.1, hh.2.2⟩))]
        constructor
        · rintro ⟨i1, i2, i3⟩; exact ⟨i1, i2, fun hh => hfr hh.1⟩
        · rintro ⟨i1, i2, i3⟩; exact ⟨i1, i2, hL⟩
    rw [if_neg (fun hh => h28 hh.1)]
    by_cases b2 : 0 < label o ∧ landsB (ops.drop (t.getD (label o).toNat (-1)).toNat) ≠ decide (o.op = 27)
    · rw [if_pos b2, if_pos (hlab.1 b2)]; simp
    rw [if_neg b2, if_neg (fun hh => b2 (hlab.2 hh)), ih]
    by_cases h19 : o.op = 19
    · have eL : landsB (o :: r) = landsB r := by rw [landsB, if_pos h19]
      rw [if_neg (by omega), eL, if_neg (fun hh => hh.1 h19)]
    · have eL : landsB (o :: r) = false := by rw [landsB, if_neg h19]; simp [h28]
      rw [eL, if_pos h19]
      by_cases hL : goesOn o = true ∧ landsB r = true
      · rw [if_pos ⟨h19, (hgo.2 hL).1, hL.2⟩]; simp [hL]
      · rw [if_neg (fun hh => hL (hgo.1 ⟨hh.2.1, hh.2.2⟩))]
        constructor
        · rintro ⟨i1, i2, i3⟩; exact ⟨i1, i2, by simp⟩
        · rintro ⟨i1, i2, i3⟩; exact ⟨i1, i2, hL⟩
theorem sumM_eq : ∀ (l : List OC.Dat), l.all datOk = true → sumM l = sumWords l
  | [], _ => rfl
  | d :: r, h => by
    rw [List.all_cons, Bool.and_eq_true] at h
    rw [sumM, sumWords, sumM_eq r h.2]
    have hd := h.1
    unfold datOk at hd
    unfold mostW datWords
    split at hd
    · rename_i ht
      rw [if_pos ht, if_pos ht]
      simp at hd
      simp [hd.2]
    · rename_i ht
      rw [if_neg ht, if_neg ht]; simp
theorem cnt_lbs : ∀ (r : List OC.Op), cntO 19 r = (lbs r).length
  | [] => rfl
  | o :: r => by
    rw [cntO, lbs, cnt_lbs r]
    split
    · rw [List.length_cons]; omega
    · omega
theorem cnt_procs {P : Int} : ∀ (r : List OC.Op) (p : Int), proQ P p r = true → p + cntO 24 r = P
  | [], p, h => by simp [proQ] at h; simp [cntO, h]
  | o :: r, p, h => by
    rw [proQ] at h
    by_cases a1 : (if o.op = 24 then p + 1 else p) = 0 ∨ (o.op = 24 ∧ o.n ≠ (if o.op = 24 then p + 1 else p))
    · rw [if_pos a1] at h; cases h
    rw [if_neg a1] at h
    by_cases a2 : nx r = 24 ∧ goQ o r = true
    · rw [if_pos a2] at h; cases h
    rw [if_neg a2] at h
    have := cnt_procs r _ h
    rw [cntO]
    by_cases h24 : o.op = 24
    · rw [if_pos h24] at this ⊢; omega
    · rw [if_neg h24] at this ⊢; omega
/-- the program finds just the code valid that the document does -/
theorem checkQ_zero (c : OC.Code) : checkQ c = 0 ↔ checkE c = 0 := by
  rw [checkE_zero]
  have e0 : checkQ c = 0 ↔ withinQ c = true ∧ isCodeQ c = true ∧ stackQ c = true := by
    unfold checkQ
    cases withinQ c <;> cases isCodeQ c <;> cases stackQ c <;> simp
  rw [e0]
  have deepE : ∀ (t : List Int), (∀ o ∈ c.ops, numB c.data.length c.procs c.labels o = true) → casQ 0 c.ops = true → proQ c.procs 0 c.ops = true → 0 ≤ c.labels → plc c.ops 0 (t0 c) = some t → namedB t (prc 0 c.ops) c.ops (prc 0 c.ops) = true →
      (stackQ c = true ↔ deepB c.ops t 0 false oz c.ops = true) := by
    intro t hn hc hp hl ht hnm
    have hlab : ∀ o ∈ c.ops, 0 < label o → 0 ≤ t.getD (label o).toNat (-1) := by
      have gen : ∀ (l : List OC.Op) (ps : List Int), ps.length = l.length → namedB t (prc 0 c.ops) l ps = true → ∀ o ∈ l, 0 < label o → 0 ≤ t.getD (label o).toNat (-1) := by
        intro l
        induction l with
        | nil => intro ps _ _ o ho; simp at ho
        | cons x r ih =>
          intro ps hps hq o ho h0
          cases ps with
          | nil => simp at hps
          | cons p ps =>
            rw [namedB] at hq
            simp only [Bool.and_eq_true, Bool.or_eq_true, decide_eq_true_eq] at hq
            rcases List.mem_cons.1 ho with rfl | ho
            · rcases hq.1 with hh | hh
              · omega
              · exact hh.1
            · exact ih ps (by simpa using hps) hq.2 o ho h0
      exact gen c.ops (prc 0 c.ops) (prc_len _ _) hnm
    have hpl := pla_plc c.ops 0 (List.replicate (c.labels + 1).toNat 0) (t0 c) t (by simp [t0]) (fun v hv => by rw [t0, rep_getD] at hv; omega) ht
    have := deep_iff (nd := c.data.length) (procs := c.procs) (labels := c.labels) c.ops t (plaQ 0 c.ops (List.replicate (c.labels + 1).toNat 0)) hpl c.ops 0 false oz 0 hn hlab hc (Int.le_refl _) (.inr (proQ_start hp))
    rw [this]
    unfold stackQ
    rw [Bool.and_eq_true]
    simp [oz]
  constructor
  · rintro ⟨hw, hi, hs⟩
    unfold withinQ at hw
    simp only [Bool.and_eq_true, decide_eq_true_eq] at hw
    obtain ⟨⟨⟨⟨w1, w2⟩, w3⟩, w4⟩, w5⟩ := hw
    unfold isCodeQ at hi
    simp only [Bool.and_eq_true, decide_eq_true_eq] at hi
    obtain ⟨⟨⟨⟨⟨⟨i1, i2⟩, i3⟩, i4⟩, i5⟩, i6⟩, i7⟩ := hi
    have hn : ∀ o ∈ c.ops, numB c.data.length c.procs c.labels o = true := fun o ho => by
      rw [← numQ_eq (by omega) (by omega) (by omega)]; exact List.all_eq_true.1 i2 o ho
    obtain ⟨hl, hor, t, ht, hnm⟩ := (lab_iff hn i3 i4).1 i5
    refine ⟨?_, ?_, hl, ?_, hn, ?_, t, ht, hnm, (deepE t hn i3 i4 hl ht hnm).1 hs⟩
    · unfold tooMuch
      rw [sumM_eq _ i6] at w3
      simp; omega
    · have := cnt_procs c.ops 0 i4; omega
    · unfold areasB; simp [i6, i7, i1]
    · unfold orderOk; rw [decide_eq_true_eq]; exact hor
  · rintro ⟨hT, hp, hl, ha, hN, hO, t, ht, hnm, hd⟩
    have hT' := hT
    unfold tooMuch at hT'
    simp only [Bool.or_eq_false_iff, decide_eq_false_iff_not] at hT'
    obtain ⟨⟨⟨⟨k1, k2⟩, k3⟩, k4⟩, k5⟩ := hT'
    unfold areasB at ha
    simp only [Bool.and_eq_true, decide_eq_true_eq] at ha
    obtain ⟨⟨a1, a2⟩, a3⟩ := ha
    unfold orderOk at hO
    rw [decide_eq_true_eq] at hO
    obtain ⟨hc, hpq, hf, hm⟩ := (ord_iff c.procs c.labels c.ops true 0 0 0 (fun o h => (m_of_numB (hN o h)).1) (Int.le_refl _) (fun _ => rfl) (fun h => by cases h)).1 hO
    have hlb := lbs_of_numB hN
    obtain ⟨hnd, _, _⟩ := plc_nodup c.ops 0 (t0 c) t ht (fun v hv => by have := hlb v hv; simp [t0]; omega)
    have hpg : (lbs c.ops).length ≤ c.labels.toNat := pigeon _ _ hnd (fun v hv => by have := hlb v hv; omega)
    have hcp := cnt_procs c.ops 0 hpq
    refine ⟨?_, ?_, (deepE t hN hc hpq hl ht hnm).2 hd⟩
    · unfold withinQ
      rw [sumM_eq _ a1, cnt_lbs]
      simp; omega
    · unfold isCodeQ
      have hnq : c.ops.all (numQ c.data.length c.procs c.labels) = true := List.all_eq_true.2 fun o ho => by rw [numQ_eq (by omega) (by omega) (by omega)]; exact hN o ho
      have hlq := (lab_iff hN hc hpq).2 ⟨hl, hO, t, ht, hnm⟩
      simp [a1, a2, a3, hc, hpq, hnq, hlq]
end Go.Proofs.YtfnkafnjpldaoaaDoor
