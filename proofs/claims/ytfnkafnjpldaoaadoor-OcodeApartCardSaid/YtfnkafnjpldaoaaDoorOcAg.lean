/- Numbering labels anew: mathematics alone. -/
import Derived.Test.YtfnkafnjpldaoaaDoorOcRo
namespace Go.Proofs.YtfnkafnjpldaoaaDoor
set_option linter.unusedVariables false
set_option linter.unusedSimpArgs false
/-- the numbers of labels, in order -/
def lbs : List OC.Op → List Int
  | [] => []
  | o :: r => if o.op = 19 then o.n :: lbs r else lbs r
/-- the table that numbers them anew -/
def toG : List OC.Op → Int → List Int → List Int
  | [], _, t => t
  | o :: r, n, t => if o.op = 19 then toG r (n + 1) (t.set o.n.toNat (n + 1)) else toG r n t
def ren (t : List Int) (o : OC.Op) : OC.Op :=
  if o.op = 30 then ⟨o.op, o.n, t.getD (OC.label o).toNat 0⟩ else if 0 < OC.label o ∨ o.op = 19 then ⟨o.op, t.getD o.n.toNat 0, o.m⟩ else o
def toC (c : OC.Code) : List Int := toG c.ops 0 (List.replicate (c.labels + 1).toNat 0)
def renum (c : OC.Code) : OC.Code := ⟨c.name, c.data, c.ops.map (ren (toC c)), c.globals, c.procs, (lbs c.ops).length⟩
theorem toG_len : ∀ (l : List OC.Op) (n : Int) (t : List Int), (toG l n t).length = t.length
  | [], _, _ => rfl
  | o :: r, n, t => by rw [toG]; split <;> rw [toG_len r] <;> simp
theorem ren_op (t : List Int) (o : OC.Op) : (ren t o).op = o.op := by
  unfold ren
  split
  · rfl
  · split <;> rfl
/-- what a renumbering leaves -/
theorem goesOn_ren (t : List Int) (o : OC.Op) : OC.goesOn (ren t o) = OC.goesOn o := by unfold OC.goesOn; rw [ren_op]
theorem ren_n {t : List Int} {o : OC.Op} (h : ¬ (o.op = 19 ∨ o.op = 20 ∨ o.op = 21 ∨ o.op = 22 ∨ o.op = 27 ∨ o.op = 29)) : (ren t o).n = o.n := by
  unfold ren
  split
  · rfl
  · rename_i h30
    split
    · rename_i h1
      exfalso
      rcases h1 with h1 | h1
      · unfold OC.label at h1
        split at h1
        · exact h (by omega)
        · first | (rw [if_neg h30] at h1; omega) | omega
      · exact h (.inl h1)
    · rfl
theorem ren_m {t : List Int} {o : OC.Op} (h : o.op ≠ 30) : (ren t o).m = o.m := by
  unfold ren
  rw [if_neg h]; split <;> rfl
theorem after_ren (t : List Int) (o : OC.Op) (d : Int) : OC.after (ren t o) d = OC.after o d := by
  unfold OC.after
  rw [ren_op]
  by_cases h1 : o.op = 19 ∨ o.op = 20 ∨ o.op = 21 ∨ o.op = 22 ∨ o.op = 27 ∨ o.op = 29
  · rcases h1 with h | h | h | h | h | h <;> simp [h]
  · by_cases h2 : o.op = 30
    · simp [h2]
    · rw [ren_n h1, ren_m h2]
theorem needs_ren (t : List Int) (o : OC.Op) : OC.needs (ren t o) = OC.needs o := by unfold OC.needs; rw [ren_op]
theorem localB_ren (t : List Int) (o : OC.Op) (d : Int) : OC.localB (ren t o) d = OC.localB o d := by
  unfold OC.localB
  rw [ren_op]
  by_cases h1 : o.op = 19 ∨ o.op = 20 ∨ o.op = 21 ∨ o.op = 22 ∨ o.op = 27 ∨ o.op = 29
  · rcases h1 with h | h | h | h | h | h <;> simp [h]
  · rw [ren_n h1]
theorem depG_ren (t : List Int) : ∀ (l : List OC.Op) (d : Int), depG d (l.map (ren t)) = depG d l
  | [], _ => rfl
  | o :: r, d => by rw [List.map_cons, depG, depG, ren_op, after_ren, depG_ren t r]
theorem roomG_ren (t : List Int) : ∀ (l : List OC.Op) (ds T : List Int), roomG (l.map (ren t)) ds T = roomG l ds T
  | [], ds, T => by cases ds <;> rfl
  | o :: r, [], T => rfl
  | o :: r, d :: ds, T => by rw [List.map_cons, roomG, roomG, ren_op, after_ren, roomG_ren t r]
/-- the labels of code have other numbers, each, if they can be placed -/
theorem plc_nodup : ∀ (l : List OC.Op) (i : Nat) (T t : List Int), OC.plc l i T = some t → (∀ v ∈ lbs l, 1 ≤ v ∧ v < (T.length : Int)) →
    (lbs l).Nodup ∧ (∀ v ∈ lbs l, T.getD v.toNat (-1) < 0) ∧ (∀ u : Int, 0 ≤ u → 0 ≤ t.getD u.toNat (-1) → u ∈ lbs l ∨ 0 ≤ T.getD u.toNat (-1))
  | [], i, T, t, h, _ => by
    simp only [OC.plc, Option.some.injEq] at h
    subst h
    exact ⟨List.nodup_nil, fun v hv => by simp [lbs] at hv, fun u _ hu => .inr hu⟩
  | o :: r, i, T, t, h, hb => by
    rw [OC.plc] at h
    by_cases h19 : o.op = 19
    · rw [if_pos h19] at h
      split at h
      · cases h
      · rename_i hneg
        have e : lbs (o :: r) = o.n :: lbs r := by rw [lbs, if_pos h19]
        rw [e] at hb ⊢
        have hn := hb o.n (List.mem_cons_self ..)
        obtain ⟨i1, i2, i3⟩ := plc_nodup r (i + 1) _ t h (fun v hv => by rw [List.length_set]; exact hb v (List.mem_cons_of_mem _ hv))
        have hlt : o.n.toNat < T.length := by omega
        have hnot : o.n ∉ lbs r := fun hm => by
          have := i2 _ hm
          simp [List.getD_eq_getElem?_getD, hlt] at this
          omega
        refine ⟨List.nodup_cons.2 ⟨hnot, i1⟩, fun v hv => ?_, fun u hu0 hu => ?_⟩
        · rcases List.mem_cons.1 hv with rfl | hv'
          · omega
          · have := i2 v hv'
            have hbv := hb v (List.mem_cons_of_mem _ hv')
            have hne : o.n.toNat ≠ v.toNat := fun hh => by
              have e2 : o.n = v := by omega
              exact hnot (by rw [e2]; exact hv')
            simpa [List.getD_eq_getElem?_getD, List.getElem?_set, hne] using this
        · rcases i3 u hu0 hu with hm | hm
          · exact .inl (List.mem_cons_of_mem _ hm)
          · by_cases hne : o.n.toNat = u.toNat
            · have e2 : u = o.n := by omega
              exact .inl (by rw [e2]; exact List.mem_cons_self ..)
            · exact .inr (by simpa [List.getD_eq_getElem?_getD, List.getElem?_set, hne] using hm)
    · rw [if_neg h19] at h
      have e : lbs (o :: r) = lbs r := by rw [lbs, if_neg h19]
      rw [e] at hb ⊢
      exact plc_nodup r (i + 1) T t h hb
/-- the numbers behind j, so many -/
def iota (j : Int) : Nat → List Int
  | 0 => []
  | n + 1 => (j + 1) :: iota (j + 1) n
theorem iota_len : ∀ (n : Nat) (j : Int), (iota j n).length = n
  | 0, _ => rfl
  | n + 1, j => by rw [iota, List.length_cons, iota_len n]
theorem mem_iota : ∀ (n : Nat) (j v : Int), v ∈ iota j n ↔ j < v ∧ v ≤ j + n
  | 0, j, v => by
    constructor
    · intro h; simp [iota] at h
    · intro h; omega
  | n + 1, j, v => by
    rw [iota, List.mem_cons, mem_iota n]
    omega
theorem iota_nodup : ∀ (n : Nat) (j : Int), (iota j n).Nodup
  | 0, _ => List.nodup_nil
  | n + 1, j => List.nodup_cons.2 ⟨fun h => by have := (mem_iota n (j + 1) (j + 1)).1 h; omega, iota_nodup n (j + 1)⟩
theorem toG_other : ∀ (l : List OC.Op) (n : Int) (t : List Int) (u : Nat), (∀ v ∈ lbs l, v.toNat ≠ u) → (toG l n t).getD u 0 = t.getD u 0
  | [], _, _, _, _ => rfl
  | o :: r, n, t, u, h => by
    rw [toG]
    by_cases h19 : o.op = 19
    · have e : lbs (o :: r) = o.n :: lbs r := by rw [lbs, if_pos h19]
      rw [e] at h
      rw [if_pos h19, toG_other r _ _ u (fun v hv => h v (List.mem_cons_of_mem _ hv))]
      have := h o.n (List.mem_cons_self ..)
      simp [List.getD_eq_getElem?_getD, List.getElem?_set, this]
    · have e : lbs (o :: r) = lbs r := by rw [lbs, if_neg h19]
      rw [e] at h
      rw [if_neg h19, toG_other r _ _ u h]
theorem toG_map : ∀ (l : List OC.Op) (n : Int) (t : List Int), (lbs l).Nodup → (∀ v ∈ lbs l, 1 ≤ v ∧ v < (t.length : Int)) → (lbs l).map (fun v => (toG l n t).getD v.toNat 0) = iota n (lbs l).length
  | [], _, _, _, _ => rfl
  | o :: r, n, t, hn, hb => by
    rw [toG]
    by_cases h19 : o.op = 19
    · have e : lbs (o :: r) = o.n :: lbs r := by rw [lbs, if_pos h19]
      rw [e] at hn hb ⊢
      rw [if_pos h19, List.map_cons, List.length_cons, iota]
      have h0 := hb o.n (List.mem_cons_self ..)
      obtain ⟨hn1, hn2⟩ := List.nodup_cons.1 hn
      rw [toG_map r (n + 1) _ hn2 (fun v hv => by rw [List.length_set]; exact hb v (List.mem_cons_of_mem _ hv))]
      rw [toG_other r _ _ _ (fun v hv hh => by
        have hbv := hb v (List.mem_cons_of_mem _ hv)
        have e2 : v = o.n := by omega
        exact hn1 (by rw [← e2]; exact hv))]
      have hlt : o.n.toNat < t.length := by omega
      simp [List.getD_eq_getElem?_getD, hlt]
    · have e : lbs (o :: r) = lbs r := by rw [lbs, if_neg h19]
      rw [e] at hn hb ⊢
      rw [if_neg h19]
      exact toG_map r n t hn hb
theorem lbs_ren (t : List Int) : ∀ (l : List OC.Op), lbs (l.map (ren t)) = (lbs l).map (fun v => t.getD v.toNat 0)
  | [] => rfl
  | o :: r => by
    rw [List.map_cons, lbs, lbs, ren_op, lbs_ren t r]
    by_cases h19 : o.op = 19
    · rw [if_pos h19, if_pos h19, List.map_cons]
      have : (ren t o).n = t.getD o.n.toNat 0 := by unfold ren; rw [if_neg (by omega), if_pos (.inr h19)]
      rw [this]
    · rw [if_neg h19, if_neg h19]
theorem nx_ren (t : List Int) (l : List OC.Op) : OC.nx (l.map (ren t)) = OC.nx l := by cases l <;> simp [OC.nx, ren_op]
theorem orderB_ren (t : List Int) : ∀ (l : List OC.Op) (first : Bool) (p a k j : Int) (p' a' k' : Int), OC.orderB first p a k l = some (p', a', k') → (lbs l).map (fun v => t.getD v.toNat 0) = iota j (lbs l).length →
    OC.orderB first p j k (l.map (ren t)) = some (p', j + (lbs l).length, k')
  | [], first, p, a, k, j, p', a', k', h, _ => by
    rw [OC.orderB] at h
    simp only [Option.some.injEq, Prod.mk.injEq] at h
    rw [List.map_nil, OC.orderB]; simp [lbs, h.1, h.2.2]
  | o :: r, first, p, a, k, j, p', a', k', h, hi => by
    rw [OC.orderB] at h
    rw [List.map_cons, OC.orderB, ren_op, nx_ren, goesOn_ren]
    by_cases h1 : decide (0 < k) ≠ decide (o.op = 30)
    · rw [if_pos h1] at h; cases h
    rw [if_neg h1] at h ⊢
    by_cases h2 : o.op = 24 ∧ o.n ≠ p + 1
    · rw [if_pos h2] at h; cases h
    rw [if_neg h2] at h
    have h2' : ¬ (o.op = 24 ∧ (ren t o).n ≠ p + 1) := fun hh => h2 ⟨hh.1, by rw [← ren_n (t := t) (o := o) (by omega)]; exact hh.2⟩
    rw [if_neg h2']
    by_cases h3 : o.op = 19 ∧ ¬ (OC.nx r = 18 ∨ OC.nx r = 28 ∨ OC.nx r = 19)
    · rw [if_pos h3] at h; cases h
    rw [if_neg h3] at h ⊢
    by_cases h4 : OC.goesOn o = true ∧ OC.nx r = 24
    · rw [if_pos h4] at h; cases h
    rw [if_neg h4] at h ⊢
    by_cases h5 : first = true ∧ o.op ≠ 24
    · rw [if_pos h5] at h; cases h
    rw [if_neg h5] at h ⊢
    have hm : (if o.op = 29 then (ren t o).m else if 0 < k then k - 1 else k) = (if o.op = 29 then o.m else if 0 < k then k - 1 else k) := by
      by_cases h29 : o.op = 29
      · rw [if_pos h29, if_pos h29, ren_m (by omega)]
      · rw [if_neg h29, if_neg h29]
    rw [hm]
    by_cases h19 : o.op = 19
    · have e : lbs (o :: r) = o.n :: lbs r := by rw [lbs, if_pos h19]
      rw [e, List.map_cons, List.length_cons, iota, List.cons.injEq] at hi
      have hn : (ren t o).n = j + 1 := by unfold ren; rw [if_neg (by omega), if_pos (.inr h19)]; exact hi.1
      rw [if_pos h19] at h
      rw [if_pos h19, hn, show max j (j + 1) = j + 1 by omega]
      have := orderB_ren t r _ _ _ _ (j + 1) _ _ _ h hi.2
      rw [e, List.length_cons, this]
      simp only [Option.some.injEq, Prod.mk.injEq, true_and, and_true]
      omega
    · have e : lbs (o :: r) = lbs r := by rw [lbs, if_neg h19]
      rw [e] at hi ⊢
      rw [if_neg h19] at h ⊢
      exact orderB_ren t r _ _ _ _ j _ _ _ h hi
theorem prc_ren (t : List Int) : ∀ (l : List OC.Op) (p : Int), OC.prc p (l.map (ren t)) = OC.prc p l
  | [], _ => rfl
  | o :: r, p => by rw [List.map_cons, OC.prc, OC.prc, ren_op, prc_ren t r]
theorem landsB_ren (t : List Int) : ∀ (l : List OC.Op), OC.landsB (l.map (ren t)) = OC.landsB l
  | [] => rfl
  | o :: r => by rw [List.map_cons, OC.landsB, OC.landsB, ren_op, landsB_ren t r]
theorem getD_set_self {l : List Int} {i : Nat} {d v : Int} (h : i < l.length) : (l.set i v).getD i d = v := by simp [List.getD_eq_getElem?_getD, h]
theorem getD_set_ne {l : List Int} {i j : Nat} {d v : Int} (h : i ≠ j) : (l.set i v).getD j d = l.getD j d := by simp [List.getD_eq_getElem?_getD, List.getElem?_set_ne h]
theorem ren_19 {t : List Int} {n m : Int} : ren t ⟨19, n, m⟩ = ⟨19, t.getD n.toNat 0, m⟩ := by unfold ren; rw [if_neg (by dsimp only; omega), if_pos (.inr rfl)]
theorem ren_30 {t : List Int} {n m : Int} : ren t ⟨30, n, m⟩ = ⟨30, n, t.getD m.toNat 0⟩ := by
  unfold ren; rw [if_pos rfl]
  have : OC.label ⟨30, n, m⟩ = m := by simp [OC.label]
  rw [this]
theorem ren_lab {t : List Int} {op n m : Int} (h : op = 20 ∨ op = 21 ∨ op = 22 ∨ op = 27 ∨ op = 29) (h0 : 0 < n) : ren t ⟨op, n, m⟩ = ⟨op, t.getD n.toNat 0, m⟩ := by
  have e : OC.label ⟨op, n, m⟩ = n := by simp only [OC.label, h, if_true]
  unfold ren; rw [if_neg (by dsimp only; omega), if_pos (.inl (by rw [e]; exact h0))]
/-- a good renumbering of the labels A: different ones stay different, and go from 1 to N -/
structure Good (A : List Int) (t : List Int) (N : Nat) : Prop where
  inj : ∀ u ∈ A, ∀ v ∈ A, t.getD u.toNat 0 = t.getD v.toNat 0 → u = v
  bd : ∀ v ∈ A, 1 ≤ t.getD v.toNat 0 ∧ t.getD v.toNat 0 ≤ N
theorem inj_of_map {f : Int → Int} : ∀ {A : List Int}, (A.map f).Nodup → ∀ u ∈ A, ∀ v ∈ A, f u = f v → u = v
  | [], _, u, hu, _, _, _ => by simp at hu
  | x :: r, h, u, hu, v, hv, e => by
    rw [List.map_cons, List.nodup_cons] at h
    rcases List.mem_cons.1 hu with rfl | hu' <;> rcases List.mem_cons.1 hv with rfl | hv'
    · rfl
    · exact absurd (e ▸ List.mem_map_of_mem hv') h.1
    · exact absurd (e ▸ List.mem_map_of_mem hu') h.1
    · exact inj_of_map h.2 u hu' v hv' e
theorem good_of {A t : List Int} {N : Nat} (h : A.map (fun v => t.getD v.toNat 0) = iota 0 N) : Good A t N := by
  refine ⟨inj_of_map (by rw [h]; exact iota_nodup N 0), fun v hv => ?_⟩
  have := (mem_iota N 0 (t.getD v.toNat 0)).1 (by rw [← h]; exact List.mem_map_of_mem (f := fun v => t.getD v.toNat 0) hv)
  omega
theorem label_ren {nd procs labels : Int} {t : List Int} {o : OC.Op} (h : OC.numB nd procs labels o = true) : (0 < OC.label o ∧ OC.label (ren t o) = t.getD (OC.label o).toNat 0) ∨ (OC.label o = 0 ∧ OC.label (ren t o) = 0) := by
  obtain ⟨op, n, m⟩ := o
  simp only [OC.numB, Bool.and_eq_true] at h
  obtain ⟨_, h⟩ := h
  by_cases h1 : op = 20 ∨ op = 21 ∨ op = 22 ∨ op = 27
  · have : 0 < n := by
      rcases h1 with rfl | rfl | rfl | rfl <;> (simp [OC.inB] at h; omega)
    refine .inl ?_
    rcases h1 with rfl | rfl | rfl | rfl <;> simp [OC.label, ren, this]
  · by_cases h2 : op = 29
    · subst h2
      have : 0 < n := by simp [OC.inB] at h; omega
      exact .inl (by simp [OC.label, ren, this])
    · by_cases h3 : op = 30
      · subst h3
        have : 0 < m := by simp [OC.inB] at h; omega
        exact .inl (by simp [OC.label, ren, this])
      · refine .inr ?_
        have e : OC.label ⟨op, n, m⟩ = 0 := by simp [OC.label]; omega
        refine ⟨e, ?_⟩
        unfold ren
        rw [if_neg h3]
        split
        · simp [OC.label]; omega
        · exact e
theorem plc_ren {A t0 : List Int} {N : Nat} (hg : Good A t0 N) : ∀ (l : List OC.Op) (i : Nat) (T t T' : List Int), (∀ v ∈ lbs l, v ∈ A) → (∀ v ∈ A, 1 ≤ v ∧ v < (T.length : Int)) → T'.length = N + 1 →
    (∀ v ∈ A, T'.getD (t0.getD v.toNat 0).toNat (-1) = T.getD v.toNat (-1)) → OC.plc l i T = some t → ∃ t', OC.plc (l.map (ren t0)) i T' = some t' ∧ t'.length = N + 1 ∧ ∀ v ∈ A, t'.getD (t0.getD v.toNat 0).toNat (-1) = t.getD v.toNat (-1)
  | [], i, T, t, T', _, _, hl, hR, h => by
    simp only [OC.plc, Option.some.injEq] at h
    subst h
    exact ⟨T', rfl, hl, hR⟩
  | o :: r, i, T, t, T', hA, hb, hl, hR, h => by
    rw [OC.plc] at h
    rw [List.map_cons, OC.plc, ren_op]
    by_cases h19 : o.op = 19
    · have e : lbs (o :: r) = o.n :: lbs r := by rw [lbs, if_pos h19]
      rw [e] at hA
      have hnA := hA o.n (List.mem_cons_self ..)
      have hn : (ren t0 o).n = t0.getD o.n.toNat 0 := by unfold ren; rw [if_neg (by omega), if_pos (.inr h19)]
      rw [if_pos h19] at h ⊢
      rw [hn, hR _ hnA]
      split at h
      · cases h
      · rename_i hneg
        rw [if_neg hneg]
        refine plc_ren hg r (i + 1) _ t _ (fun v hv => hA v (List.mem_cons_of_mem _ hv)) (fun v hv => by rw [List.length_set]; exact hb v hv) (by rw [List.length_set]; exact hl) (fun v hv => ?_) h
        have b1 := hb _ hnA
        have b2 := hb _ hv
        have g1 := hg.bd _ hnA
        have g2 := hg.bd _ hv
        by_cases hv2 : v = o.n
        · rw [hv2, getD_set_self (by omega), getD_set_self (by omega)]
        · have d1 : o.n.toNat ≠ v.toNat := by omega
          have d2 : (t0.getD o.n.toNat 0).toNat ≠ (t0.getD v.toNat 0).toNat := fun hh => hv2 (hg.inj _ hv _ hnA (by omega))
          rw [getD_set_ne d2, getD_set_ne d1]
          exact hR v hv
    · have e : lbs (o :: r) = lbs r := by rw [lbs, if_neg h19]
      rw [e] at hA
      rw [if_neg h19] at h ⊢
      exact plc_ren hg r (i + 1) T t T' hA hb hl hR h
theorem namedB_ren {nd procs labels : Int} {A t0 t t' q : List Int} (hA : ∀ u : Int, 0 ≤ u → 0 ≤ t.getD u.toNat (-1) → u ∈ A) (ht : ∀ v ∈ A, t'.getD (t0.getD v.toNat 0).toNat (-1) = t.getD v.toNat (-1)) :
    ∀ (l : List OC.Op) (ps : List Int), (∀ o ∈ l, OC.numB nd procs labels o = true) → OC.namedB t q l ps = true → OC.namedB t' q (l.map (ren t0)) ps = true
  | [], ps, _, _ => by cases ps <;> rfl
  | o :: r, [], _, _ => rfl
  | o :: r, p :: ps, hn, h => by
    rw [OC.namedB] at h
    rw [List.map_cons, OC.namedB]
    simp only [Bool.and_eq_true, Bool.or_eq_true, decide_eq_true_eq] at h ⊢
    refine ⟨?_, namedB_ren hA ht r ps (fun x hx => hn x (List.mem_cons_of_mem _ hx)) h.2⟩
    rcases label_ren (t := t0) (hn o (List.mem_cons_self ..)) with ⟨h1, h2⟩ | ⟨h1, h2⟩
    · rcases h.1 with h3 | ⟨h3, h4⟩
      · omega
      · right
        have := ht _ (hA _ (by omega) h3)
        rw [h2, this]
        exact ⟨h3, h4⟩
    · left; omega
theorem deepB_ren {nd procs labels : Int} {ops : List OC.Op} {A t0 t t' : List Int} {N : Nat} (hg : Good A t0 N) (ht : ∀ v ∈ A, t'.getD (t0.getD v.toNat 0).toNat (-1) = t.getD v.toNat (-1)) :
    ∀ (l : List OC.Op) (d : Int) (fr : Bool) (pv : OC.Op), (∀ o ∈ l, OC.numB nd procs labels o = true ∧ (0 < OC.label o → OC.label o ∈ A)) → OC.deepB ops t d fr pv l = true → OC.deepB (ops.map (ren t0)) t' d fr (ren t0 pv) (l.map (ren t0)) = true
  | [], _, _, _, _, _ => rfl
  | o :: r, d, fr, pv, hn, h => by
    rw [OC.deepB] at h
    rw [List.map_cons, OC.deepB, ren_op, ren_op, after_ren, needs_ren, localB_ren, goesOn_ren]
    have hr := fun x hx => hn x (List.mem_cons_of_mem _ hx)
    by_cases h24 : o.op = 24
    · rw [if_pos h24] at h ⊢
      rw [ren_m (by omega)]
      exact deepB_ren hg ht r _ _ _ hr h
    · rw [if_neg h24] at h ⊢
      split at h
      · cases h
      · rename_i hb
        rw [if_neg hb]
        split at h
        · cases h
        · rename_i hc
          rw [if_neg hc]
          have key : (0 < OC.label (ren t0 o) ∧ OC.landsB ((ops.map (ren t0)).drop (t'.getD (OC.label (ren t0 o)).toNat (-1)).toNat) ≠ decide (o.op = 27)) ↔ (0 < OC.label o ∧ OC.landsB (ops.drop (t.getD (OC.label o).toNat (-1)).toNat) ≠ decide (o.op = 27)) := by
            rcases label_ren (t := t0) (hn o (List.mem_cons_self ..)).1 with ⟨h1, h2⟩ | ⟨h1, h2⟩
            · have hm := (hn o (List.mem_cons_self ..)).2 h1
              rw [h2, ht _ hm, ← List.map_drop, landsB_ren]
              have := hg.bd _ hm
              constructor <;> rintro ⟨_, hh⟩ <;> exact ⟨by omega, hh⟩
            · rw [h1, h2]; simp
          split at h
          · cases h
          · rename_i hl
            rw [if_neg (fun hh => hl (key.1 hh))]
            exact deepB_ren hg ht r _ _ _ hr h
theorem numB_ren {nd procs labels : Int} {A t0 : List Int} {N : Nat} (hg : Good A t0 N) (hN : N ≤ 20000) {o : OC.Op} (h : OC.numB nd procs labels o = true) (h1 : 0 < OC.label o → OC.label o ∈ A) (h2 : o.op = 19 → o.n ∈ A) : OC.numB nd procs N (ren t0 o) = true := by
  obtain ⟨op, n, m⟩ := o
  by_cases c1 : op = 19
  · subst c1
    have hb := hg.bd _ (h2 rfl)
    dsimp only at hb
    rw [ren_19]
    generalize t0.getD n.toNat 0 = f at *
    simp [OC.numB, OC.inB] at h ⊢
    omega
  by_cases c2 : op = 20 ∨ op = 21 ∨ op = 22 ∨ op = 27
  · have hl : OC.label ⟨op, n, m⟩ = n := by rcases c2 with rfl | rfl | rfl | rfl <;> simp [OC.label]
    rw [hl] at h1
    have h0 : 0 < n := by rcases c2 with rfl | rfl | rfl | rfl <;> (simp [OC.numB, OC.inB] at h; omega)
    have hb := hg.bd _ (h1 h0)
    rw [ren_lab (by omega) h0]
    generalize t0.getD n.toNat 0 = f at *
    rcases c2 with rfl | rfl | rfl | rfl <;> (simp [OC.numB, OC.inB] at h ⊢; omega)
  by_cases c3 : op = 29
  · subst c3
    have hl : OC.label ⟨29, n, m⟩ = n := by simp [OC.label]
    rw [hl] at h1
    have h0 : 0 < n := by simp [OC.numB, OC.inB] at h; omega
    have hb := hg.bd _ (h1 h0)
    rw [ren_lab (by omega) h0]
    generalize t0.getD n.toNat 0 = f at *
    simp [OC.numB, OC.inB] at h ⊢; omega
  by_cases c4 : op = 30
  · subst c4
    have hl : OC.label ⟨30, n, m⟩ = m := by simp [OC.label]
    rw [hl] at h1
    have h0 : 0 < m := by simp [OC.numB, OC.inB] at h; omega
    have hb := hg.bd _ (h1 h0)
    rw [ren_30]
    generalize t0.getD m.toNat 0 = f at *
    simp [OC.numB, OC.inB] at h ⊢; omega
  · have e : ren t0 ⟨op, n, m⟩ = ⟨op, n, m⟩ := by
      have : OC.label ⟨op, n, m⟩ = 0 := by simp [OC.label]; omega
      simp [ren, this, c1, c4]
    rw [e]
    unfold OC.numB at h ⊢
    have d1 : ¬ (op = 19 ∨ op = 20 ∨ op = 21 ∨ op = 22 ∨ op = 27) := by omega
    simp only [c3, c4, d1, if_false] at h ⊢
    exact h
theorem ren_id {nd procs : Int} {t : List Int} {N : Nat} {o : OC.Op} (h : OC.numB nd procs N o = true) (hi : ∀ v : Int, 1 ≤ v → v ≤ N → t.getD v.toNat 0 = v) : ren t o = o := by
  obtain ⟨op, n, m⟩ := o
  by_cases c1 : op = 19 ∨ op = 20 ∨ op = 21 ∨ op = 22 ∨ op = 27 ∨ op = 29
  · have hb : 1 ≤ n ∧ n ≤ N := by rcases c1 with rfl | rfl | rfl | rfl | rfl | rfl <;> (simp [OC.numB, OC.inB] at h; omega)
    have := hi n hb.1 hb.2
    unfold ren
    rw [if_neg (by dsimp only; omega)]
    split
    · dsimp only; rw [this]
    · rfl
  · by_cases c4 : op = 30
    · subst c4
      have hl : OC.label ⟨30, n, m⟩ = m := by simp [OC.label]
      have hb : 1 ≤ m ∧ m ≤ N := by simp [OC.numB, OC.inB] at h; omega
      have := hi m hb.1 hb.2
      unfold ren
      rw [if_pos rfl, hl, this]
    · have : OC.label ⟨op, n, m⟩ = 0 := by simp [OC.label]; omega
      simp [ren, this, c4]; omega
theorem mem_lbs : ∀ {l : List OC.Op} {v : Int}, v ∈ lbs l ↔ ∃ o ∈ l, o.op = 19 ∧ o.n = v
  | [], v => by simp [lbs]
  | o :: r, v => by
    rw [lbs]
    split
    · rename_i h; rw [List.mem_cons, mem_lbs]; simp [h, eq_comm]
    · rename_i h; rw [mem_lbs]; simp [h]
theorem pigeon : ∀ (L : Nat) (A : List Int), A.Nodup → (∀ v ∈ A, 1 ≤ v ∧ v ≤ L) → A.length ≤ L
  | 0, A, _, h => by
    cases A with
    | nil => simp
    | cons x r => have := h x (List.mem_cons_self ..); omega
  | L + 1, A, hn, h => by
    by_cases hm : ((L + 1 : Nat) : Int) ∈ A
    · have := pigeon L (A.erase ((L + 1 : Nat) : Int)) (hn.erase _) (fun v hv => by
        have hv' := (hn.mem_erase_iff).1 hv
        have := h v hv'.2
        have := hv'.1
        omega)
      rw [List.length_erase_of_mem hm] at this
      omega
    · have := pigeon L A hn (fun v hv => by
        have h1 := h v hv
        have : v ≠ ((L + 1 : Nat) : Int) := fun e => hm (e ▸ hv)
        omega)
      omega
theorem checkE_zero {c : OC.Code} : checkE c = 0 ↔ OC.tooMuch c = false ∧ 0 ≤ c.procs ∧ 0 ≤ c.labels ∧ areasB c = true ∧ NumOk c ∧ OC.orderOk c = true ∧ ∃ t, OC.plc c.ops 0 (OC.t0 c) = some t ∧ OC.namedB t (OC.prc 0 c.ops) c.ops (OC.prc 0 c.ops) = true ∧ OC.deepB c.ops t 0 false OC.oz c.ops = true := by
  unfold checkE
  constructor
  · intro h
    split at h
    · cases h
    · rename_i hT
      split at h
      · cases h
      · rename_i hP
        split at h
        · cases h
        · rename_i hN
          split at h
          · cases h
          · rename_i hO
            refine ⟨by simpa using hT, by omega, by omega, ?_, fun o ho => List.all_eq_true.1 (by simpa using hN) o ho, by simpa using hO, ?_⟩
            · cases ha : areasB c with
              | true => rfl
              | false => exact absurd (.inr (.inr ha)) hP
            · split at h
              · cases h
              · rename_i t ht
                split at h
                · cases h
                · rename_i hn
                  split at h
                  · cases h
                  · rename_i hd
                    exact ⟨t, ht, by simpa using hn, by simpa using hd⟩
  · rintro ⟨hT, hp, hl, ha, hN, hO, t, ht, hn, hd⟩
    have hN' : c.ops.all (OC.numB (c.data.length : Int) c.procs c.labels) = true := List.all_eq_true.2 hN
    rw [hT, if_neg (by simp), if_neg (by rw [ha]; simp; omega), hN', if_neg (by simp), hO, if_neg (by simp), ht]
    simp [hn, hd]
/-- code whose labels are numbered anew is valid, and stays as it is when they are numbered once more -/
theorem renum_ok {c : OC.Code} (h : checkE c = 0) : checkE (renum c) = 0 ∧ renum (renum c) = renum c := by
  obtain ⟨hT, hp, hl, ha, hN, hO, t, ht, hn, hd⟩ := checkE_zero.1 h
  have hT2 : c.labels ≤ 20000 := by unfold OC.tooMuch at hT; simp at hT; omega
  have hlb : ∀ v ∈ lbs c.ops, 1 ≤ v ∧ v ≤ c.labels := by
    intro v hv
    obtain ⟨o, ho, h19, rfl⟩ := mem_lbs.1 hv
    have := hN o ho
    obtain ⟨op, n, m⟩ := o
    dsimp only at h19
    subst h19
    simp [OC.numB, OC.inB] at this ⊢
    omega
  have hlen0 : (OC.t0 c).length = (c.labels + 1).toNat := by simp [OC.t0]
  obtain ⟨hnd, _, hin⟩ := plc_nodup c.ops 0 (OC.t0 c) t ht (fun v hv => by have := hlb v hv; rw [hlen0]; omega)
  have hin' : ∀ u : Int, 0 ≤ u → 0 ≤ t.getD u.toNat (-1) → u ∈ lbs c.ops := fun u h0 h1 => by
    rcases hin u h0 h1 with hh | hh
    · exact hh
    · exfalso
      simp only [OC.t0, List.getD_eq_getElem?_getD, List.getElem?_replicate] at hh
      split at hh <;> simp at hh
  have hN20 : (lbs c.ops).length ≤ c.labels.toNat := pigeon _ _ hnd (fun v hv => by have := hlb v hv; omega)
  have hmap : (lbs c.ops).map (fun v => (toC c).getD v.toNat 0) = iota 0 (lbs c.ops).length := toG_map c.ops 0 _ hnd (fun v hv => by have := hlb v hv; simp; omega)
  have hg : Good (lbs c.ops) (toC c) (lbs c.ops).length := good_of hmap
  -- what is named is there
  have hnm : ∀ o ∈ c.ops, 0 < OC.label o → OC.label o ∈ lbs c.ops := by
    have gen : ∀ (l : List OC.Op) (ps : List Int), ps.length = l.length → OC.namedB t (OC.prc 0 c.ops) l ps = true → ∀ o ∈ l, 0 < OC.label o → OC.label o ∈ lbs c.ops := by
      intro l
      induction l with
      | nil => intro ps _ _ o ho; simp at ho
      | cons x r ih =>
        intro ps hps hq o ho h0
        cases ps with
        | nil => simp at hps
        | cons p ps =>
          rw [OC.namedB] at hq
          simp only [Bool.and_eq_true, Bool.or_eq_true, decide_eq_true_eq] at hq
          rcases List.mem_cons.1 ho with rfl | ho
          · rcases hq.1 with hh | hh
            · omega
            · exact hin' _ (by omega) hh.1
          · exact ih ps (by simpa using hps) hq.2 o ho h0
    exact gen c.ops _ (prc_len _ _) hn
  have hNr : NumOk (renum c) := by
    intro o' ho'
    obtain ⟨o, ho, rfl⟩ := List.mem_map.1 ho'
    exact numB_ren hg (by omega) (hN o ho) (hnm o ho) (fun h19 => mem_lbs.2 ⟨o, ho, h19, rfl⟩)
  have hlen0' : (OC.t0 (renum c)).length = (lbs c.ops).length + 1 := by simp [OC.t0, renum]
  obtain ⟨t', ht', hlt', hR⟩ := plc_ren hg c.ops 0 (OC.t0 c) t (OC.t0 (renum c)) (fun _ hv => hv) (fun v hv => by have := hlb v hv; rw [hlen0]; omega) hlen0' (fun v _ => by
    have key : ∀ (n : Nat) (u : Nat), (List.replicate n (-1 : Int)).getD u (-1) = -1 := fun n u => by
      rw [List.getD_eq_getElem?_getD, List.getElem?_replicate]; split <;> rfl
    rw [OC.t0, OC.t0, key, key]) ht
  refine ⟨checkE_zero.2 ⟨?_, hp, by simp [renum], ha, hNr, ?_, t', ht', ?_, ?_⟩, ?_⟩
  · have hL : ((lbs c.ops).length : Int) ≤ 20000 := by omega
    unfold OC.tooMuch at hT ⊢
    simp only [Bool.or_eq_false_iff, decide_eq_false_iff_not] at hT ⊢
    obtain ⟨⟨⟨⟨k1, k2⟩, k3⟩, k4⟩, k5⟩ := hT
    refine ⟨⟨⟨⟨?_, k2⟩, k3⟩, ?_⟩, k5⟩
    · show ¬ 40000 < (c.ops.map (ren (toC c))).length
      rw [List.length_map]; exact k1
    · show ¬ (20000 : Int) < ((lbs c.ops).length : Int)
      omega
  · have := orderB_ren (toC c) c.ops true 0 0 0 0 _ _ _ (by simpa [OC.orderOk] using hO) hmap
    unfold OC.orderOk
    rw [decide_eq_true_eq]
    show OC.orderB true 0 0 0 (c.ops.map (ren (toC c))) = _
    rw [this]; simp [renum]
  · show OC.namedB t' (OC.prc 0 (c.ops.map (ren (toC c)))) (c.ops.map (ren (toC c))) (OC.prc 0 (c.ops.map (ren (toC c)))) = true
    rw [prc_ren]
    exact namedB_ren hin' hR c.ops _ hN hn
  · have hoz : ren (toC c) OC.oz = OC.oz := by simp [ren, OC.oz, OC.label]
    have := deepB_ren (ops := c.ops) hg hR c.ops 0 false OC.oz (fun o ho => ⟨hN o ho, hnm o ho⟩) hd
    rw [hoz] at this
    exact this
  · have hl2 : lbs (renum c).ops = iota 0 (lbs c.ops).length := by show lbs (c.ops.map _) = _; rw [lbs_ren, hmap]
    have hl3 : (lbs (renum c).ops).length = (lbs c.ops).length := by rw [hl2, iota_len]
    have hid : ∀ v : Int, 1 ≤ v → v ≤ (lbs c.ops).length → (toC (renum c)).getD v.toNat 0 = v := by
      have hm2 : (lbs (renum c).ops).map (fun v => (toC (renum c)).getD v.toNat 0) = iota 0 (lbs (renum c).ops).length := toG_map _ 0 _ (by rw [hl2]; exact iota_nodup _ _) (fun v hv => by
        rw [hl2] at hv
        have := (mem_iota _ _ _).1 hv
        simp [renum]; omega)
      rw [hl3, hl2] at hm2
      intro v h1 h2
      have hmem : v ∈ iota 0 (lbs c.ops).length := (mem_iota _ _ _).2 (by omega)
      have gen : ∀ (l : List Int) (f : Int → Int), l.map f = l → ∀ v ∈ l, f v = v := by
        intro l f
        induction l with
        | nil => intro _ v hv; simp at hv
        | cons x r ih =>
          intro hh v hv
          rw [List.map_cons, List.cons.injEq] at hh
          rcases List.mem_cons.1 hv with rfl | hv
          · exact hh.1
          · exact ih hh.2 v hv
      exact gen _ _ hm2 v hmem
    have hops : (renum c).ops.map (ren (toC (renum c))) = (renum c).ops := by
      conv => rhs; rw [← List.map_id (renum c).ops]
      refine List.map_congr_left fun o ho => ?_
      exact ren_id (nd := (c.data.length : Int)) (procs := c.procs) (N := (lbs c.ops).length) (hNr o ho) hid
    show OC.Code.mk _ _ ((renum c).ops.map (ren (toC (renum c)))) _ _ _ = _
    rw [hops, hl3]
    rfl
end Go.Proofs.YtfnkafnjpldaoaaDoor
