/- What labels and depths add up to: mathematics alone. -/
import Derived.Test.YtfnkafnjpldaoaaDoorOcRo
namespace Go.Proofs.YtfnkafnjpldaoaaDoor
set_option linter.unusedVariables false
set_option linter.unusedSimpArgs false
def sumI : List Int → Int
  | [] => 0
  | x :: r => x + sumI r
/-- how many instructions name a label -/
def cntL : List OC.Op → Int
  | [] => 0
  | o :: r => (if 0 < OC.label o then 1 else 0) + cntL r
theorem cntL_bd : ∀ (l : List OC.Op), 0 ≤ cntL l ∧ cntL l ≤ l.length
  | [] => by simp [cntL]
  | o :: r => by
    have := cntL_bd r
    rw [cntL, List.length_cons]
    split <;> omega
theorem sumI_nonneg : ∀ {l : List Int}, (∀ x ∈ l, 0 ≤ x) → 0 ≤ sumI l
  | [], _ => by simp [sumI]
  | x :: r, h => by
    rw [sumI]
    have := sumI_nonneg (fun y hy => h y (List.mem_cons_of_mem x hy))
    have := h x (List.mem_cons_self ..)
    omega
theorem sumI_take_le : ∀ {l : List Int} (k : Nat), (∀ x ∈ l, 0 ≤ x) → sumI (l.take k) ≤ sumI l
  | [], k, _ => by simp
  | x :: r, 0, h => by rw [List.take_zero]; exact sumI_nonneg h
  | x :: r, k + 1, h => by
    rw [List.take_succ_cons, sumI, sumI]
    have := sumI_take_le (l := r) k (fun y hy => h y (List.mem_cons_of_mem x hy))
    omega
theorem sumI_append : ∀ (a b : List Int), sumI (a ++ b) = sumI a + sumI b
  | [], b => by simp [sumI]
  | x :: r, b => by rw [List.cons_append, sumI, sumI, sumI_append r b]; omega
theorem sumI_take_succ {l : List Int} {k : Nat} (h : k < l.length) : sumI (l.take (k + 1)) = sumI (l.take k) + l.getD k 0 := by
  rw [List.take_succ_eq_append_getElem h, sumI_append, getD_at h]; simp [sumI]
theorem cntL_append : ∀ (a b : List OC.Op), cntL (a ++ b) = cntL a + cntL b
  | [], b => by simp [cntL]
  | x :: r, b => by rw [List.cons_append, cntL, cntL, cntL_append r b]; omega
theorem cntL_take_succ {l : List OC.Op} {k : Nat} (h : k < l.length) : cntL (l.take (k + 1)) = cntL (l.take k) + (if 0 < OC.label (l.getD k OC.oz) then 1 else 0) := by
  rw [List.take_succ_eq_append_getElem h, cntL_append, getD_at h]; simp [cntL]
theorem sumI_set : ∀ (l : List Int) (i : Nat) (v : Int), i < l.length → sumI (l.set i v) = sumI l - l.getD i 0 + v
  | [], i, v, h => by simp at h
  | x :: r, 0, v, _ => by simp [sumI]; omega
  | x :: r, i + 1, v, h => by
    rw [List.set_cons_succ, sumI, sumI, sumI_set r i v (by simpa using h)]
    simp only [List.getD_cons_succ]; omega
theorem jmpG_sum : ∀ (l : List OC.Op) (t : List Int), (∀ o ∈ l, OC.label o ≤ t.length) → sumI (jmpG l t) = sumI t + cntL l
  | [], t, _ => by simp [jmpG, cntL]
  | o :: r, t, h => by
    have hl : ∀ (t' : List Int), t'.length = t.length → ∀ x ∈ r, OC.label x ≤ t'.length := fun t' e x hx => by rw [e]; exact h x (List.mem_cons_of_mem _ hx)
    have h0 := h o (List.mem_cons_self ..)
    rw [jmpG, cntL]
    by_cases hp : 0 < OC.label o
    · rw [if_pos hp, if_pos hp, jmpG_sum r _ (hl _ (by simp)), sumI_set _ _ _ (by omega)]; omega
    · rw [if_neg hp, if_neg hp, jmpG_sum r _ (hl _ rfl)]; omega
theorem jmpG_nonneg : ∀ (l : List OC.Op) (t : List Int), (∀ x ∈ t, 0 ≤ x) → ∀ x ∈ jmpG l t, 0 ≤ x
  | [], t, h => h
  | o :: r, t, h => by
    rw [jmpG]
    refine jmpG_nonneg r _ ?_
    split
    · intro x hx
      rcases List.mem_or_eq_of_mem_set hx with hx | rfl
      · exact h x hx
      · by_cases hi : (OC.label o).toNat - 1 < t.length
        · have := h _ (getD_map_range t 0 hi); omega
        · rw [List.getD_eq_getElem?_getD, List.getElem?_eq_none (by omega)]; decide
    · exact h
theorem sumI_zeros (n : Nat) : sumI (List.replicate n 0) = 0 := by
  induction n with
  | zero => rfl
  | succ n ih => rw [List.replicate_succ, sumI, ih]; rfl
theorem label_le {nd procs labels : Int} {o : OC.Op} (h : OC.numB nd procs labels o = true) (h0 : 0 ≤ labels) : OC.label o ≤ labels := by
  obtain ⟨op, n, m⟩ := o
  by_cases h1 : op = 20 ∨ op = 21 ∨ op = 22 ∨ op = 27
  · rcases h1 with rfl | rfl | rfl | rfl <;> (simp [OC.numB, OC.inB, OC.label] at h ⊢; omega)
  · by_cases h2 : op = 29
    · subst h2; simp [OC.numB, OC.inB, OC.label] at h ⊢; omega
    · by_cases h3 : op = 30
      · subst h3; simp [OC.numB, OC.inB, OC.label] at h ⊢; omega
      · have e : OC.label ⟨op, n, m⟩ = 0 := by simp [OC.label]; omega
        rw [e]; exact h0
/-- all labels that are named are counted, and no others -/
theorem jumps_sum {c : OC.Code} (h : checkE c = 0) : sumI (jmpG c.ops (List.replicate c.labels.toNat 0)) = cntL c.ops ∧ (∀ x ∈ jmpG c.ops (List.replicate c.labels.toNat 0), 0 ≤ x) ∧ ((jmpG c.ops (List.replicate c.labels.toNat 0)).length : Int) = c.labels := by
  obtain ⟨hN, _, hl, _⟩ := checkE_ok h
  refine ⟨?_, jmpG_nonneg _ _ (fun x hx => by rw [List.eq_of_mem_replicate hx]; exact Int.le_refl _), ?_⟩
  · rw [jmpG_sum _ _ (fun o ho => by have := label_le (hN o ho) hl; simp; omega), sumI_zeros]; omega
  · rw [jmpG_len]; simp; omega
/-- how many procedures begin -/
def cntE : List OC.Op → Nat
  | [] => 0
  | o :: r => (if o.op = 24 then 1 else 0) + cntE r
theorem roomG_len : ∀ (l : List OC.Op) (ds T : List Int), l.length ≤ ds.length → (roomG l ds T).length = T.length + cntE l
  | [], ds, T, _ => by cases ds <;> simp [roomG, cntE]
  | o :: r, [], T, h => by simp at h
  | o :: r, d :: ds, T, h => by
    rw [roomG, cntE]
    rw [roomG_len r ds _ (by simpa using h), List.length_set]
    split <;> simp <;> omega
theorem orderB_procs : ∀ (l : List OC.Op) (first : Bool) (p a k p' a' k' : Int), OC.orderB first p a k l = some (p', a', k') → p' = p + cntE l
  | [], first, p, a, k, p', a', k', h => by
    rw [OC.orderB] at h
    simp only [Option.some.injEq, Prod.mk.injEq] at h
    simp [cntE, h.1]
  | o :: r, first, p, a, k, p', a', k', h => by
    rw [OC.orderB] at h
    split at h
    · cases h
    split at h
    · cases h
    split at h
    · cases h
    split at h
    · cases h
    split at h
    · cases h
    · have := orderB_procs r _ _ _ _ _ _ _ h
      rw [this, cntE]; split <;> simp <;> omega
theorem roomG_keep : ∀ (l : List OC.Op) (ds T : List Int) (j : Nat), j + 1 < T.length → (roomG l ds T).getD j 0 = T.getD j 0
  | [], ds, T, j, _ => by cases ds <;> rfl
  | o :: r, [], T, j, _ => rfl
  | o :: r, d :: ds, T, j, h => by
    rw [roomG]
    have hl : T.length ≤ (if o.op = 24 then T ++ [0] else T).length := by split <;> simp
    rw [roomG_keep r ds _ j (by rw [List.length_set]; omega)]
    rw [List.getD_eq_getElem?_getD, List.getElem?_set_ne (by omega), ← List.getD_eq_getElem?_getD]
    split
    · rw [List.getD_eq_getElem?_getD, List.getElem?_append_left (by omega), ← List.getD_eq_getElem?_getD]
    · rfl
theorem needs_nonneg (o : OC.Op) : 0 ≤ OC.needs o := by
  unfold OC.needs; split
  · decide
  · split
    · decide
    · split <;> decide
theorem DeepOk.low {ops : List OC.Op} {t : List Int} {d : Int} {o : OC.Op} {r : List OC.Op} (h : DeepOk ops t d (o :: r)) (h24 : o.op ≠ 24) : 2 ≤ d := by
  obtain ⟨fr, pv, h⟩ := h
  rw [OC.deepB, if_neg h24] at h
  split at h
  · cases h
  · rename_i hb
    have := needs_nonneg o
    omega
/-- one step of the rooms: what is at the last place, and what was before stays -/
theorem roomG_step {r : List OC.Op} {o : OC.Op} {ds T : List Int} {d : Int} : ∃ T', roomG (o :: r) (d :: ds) T = roomG r ds T' ∧ T'.length = T.length + (if o.op = 24 then 1 else 0) ∧
    (0 < T'.length → T'.getD (T'.length - 1) 0 = max (max (if o.op = 24 then 0 else T.getD (T.length - 1) 0) d) (OC.after o d)) ∧ (o.op = 24 → ∀ j, j < T.length → (roomG r ds T').getD j 0 = T.getD j 0) := by
  refine ⟨_, by rw [roomG], ?_, ?_, ?_⟩
  · rw [List.length_set]; split <;> simp
  · intro h
    rw [List.length_set] at h ⊢
    rw [List.getD_eq_getElem?_getD, List.getElem?_set_self (by omega), Option.getD_some]
    by_cases h24 : o.op = 24
    · simp [h24]
    · simp [h24]
  · intro h24 j hj
    rw [if_pos h24]
    rw [roomG_keep _ _ _ j (by simp; omega), List.getD_eq_getElem?_getD, List.getElem?_set_ne (by simp; omega), List.getElem?_append_left hj, ← List.getD_eq_getElem?_getD]
end Go.Proofs.YtfnkafnjpldaoaaDoor
