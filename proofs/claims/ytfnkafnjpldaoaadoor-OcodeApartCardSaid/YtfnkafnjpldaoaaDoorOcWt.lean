/- Code without one of its procedures: mathematics alone. -/
import Derived.Test.YtfnkafnjpldaoaaDoorOcAg
import Derived.Test.YtfnkafnjpldaoaaDoorOcSd
namespace Go.Proofs.YtfnkafnjpldaoaaDoor
set_option linter.unusedVariables false
set_option linter.unusedSimpArgs false
/-- an instruction, when procedure p is left out -/
def shp (p : Int) (o : OC.Op) : OC.Op :=
  if (o.op = 24 ∨ o.op = 11) ∧ p < o.n then ⟨o.op, o.n - 1, o.m⟩ else if o.op = 11 ∧ o.n = p then ⟨o.op, 1, o.m⟩ else o
/-- the procedure that an instruction is in -/
def nxq (q : Int) (o : OC.Op) : Int := if o.op = 24 then o.n else q
def curq : Int → List OC.Op → Int
  | q, [] => q
  | q, o :: r => curq (nxq q o) r
def wth (p : Int) : Int → List OC.Op → List OC.Op
  | _, [] => []
  | q, o :: r => if nxq q o = p then wth p (nxq q o) r else shp p o :: wth p (nxq q o) r
def dsl (p : Int) : Int → List OC.Op → List Int → List Int
  | q, o :: r, d :: ds => if nxq q o = p then dsl p (nxq q o) r ds else d :: dsl p (nxq q o) r ds
  | _, _, _ => []
def lmx : Int → List OC.Op → Int
  | a, [] => a
  | a, o :: r => lmx (if o.op = 19 then max a o.n else a) r
def wthC (c : OC.Code) (p : Int) : OC.Code := ⟨c.name, c.data, wth p 0 c.ops, [], c.procs - 1, lmx 0 (wth p 0 c.ops)⟩
/-- procedures are numbered one by one -/
def enm : Int → List OC.Op → Prop
  | _, [] => True
  | q, o :: r => (o.op = 24 → o.n = q + 1) ∧ enm (nxq q o) r
theorem shp_op (p : Int) (o : OC.Op) : (shp p o).op = o.op := by
  unfold shp; split
  · rfl
  · split <;> rfl
theorem shp_m (p : Int) (o : OC.Op) : (shp p o).m = o.m := by
  unfold shp; split
  · rfl
  · split <;> rfl
theorem shp_id {p : Int} {o : OC.Op} (h : o.op ≠ 24) (h2 : o.op ≠ 11) : shp p o = o := by
  unfold shp
  rw [if_neg (fun hh => by rcases hh.1 with hh | hh <;> contradiction), if_neg (fun hh => h2 hh.1)]
theorem shp_n24 {p : Int} {o : OC.Op} (h : o.op = 24) : (shp p o).n = if p < o.n then o.n - 1 else o.n := by
  unfold shp
  by_cases h1 : p < o.n
  · rw [if_pos ⟨.inl h, h1⟩, if_pos h1]
  · rw [if_neg (fun hh => h1 hh.2), if_neg (fun hh => by have := hh.1; omega), if_neg h1]
theorem label_shp (p : Int) (o : OC.Op) : OC.label (shp p o) = OC.label o := by
  by_cases h : o.op = 24 ∨ o.op = 11
  · unfold OC.label; rw [shp_op]
    have e1 : ¬ (o.op = 20 ∨ o.op = 21 ∨ o.op = 22 ∨ o.op = 27 ∨ o.op = 29) := by omega
    have e2 : ¬ o.op = 30 := by omega
    rw [if_neg e1, if_neg e1, if_neg e2, if_neg e2]
  · rw [shp_id (by omega) (by omega)]
theorem after_shp (p : Int) (o : OC.Op) (d : Int) : OC.after (shp p o) d = OC.after o d := by
  by_cases h : o.op = 24 ∨ o.op = 11
  · unfold OC.after; rw [shp_op, shp_m]
    rcases h with h | h <;> simp [h]
  · rw [shp_id (by omega) (by omega)]
theorem needs_shp (p : Int) (o : OC.Op) : OC.needs (shp p o) = OC.needs o := by unfold OC.needs; rw [shp_op]
theorem localB_shp (p : Int) (o : OC.Op) (d : Int) : OC.localB (shp p o) d = OC.localB o d := by
  by_cases h : o.op = 24 ∨ o.op = 11
  · unfold OC.localB; rw [shp_op]
    rcases h with h | h <;> simp [h]
  · rw [shp_id (by omega) (by omega)]
theorem goesOn_shp (p : Int) (o : OC.Op) : OC.goesOn (shp p o) = OC.goesOn o := by unfold OC.goesOn; rw [shp_op]
theorem nxq_other {q : Int} {o : OC.Op} (h : o.op ≠ 24) : nxq q o = q := by unfold nxq; rw [if_neg h]
theorem curq_append : ∀ (A B : List OC.Op) (q : Int), curq q (A ++ B) = curq (curq q A) B
  | [], B, q => rfl
  | o :: r, B, q => by rw [List.cons_append, curq, curq, curq_append r B]
theorem wth_append (p : Int) : ∀ (A B : List OC.Op) (q : Int), wth p q (A ++ B) = wth p q A ++ wth p (curq q A) B
  | [], B, q => rfl
  | o :: r, B, q => by
    rw [List.cons_append, wth, wth, curq, wth_append p r B]
    split <;> rfl
theorem wth_len (p : Int) : ∀ (l : List OC.Op) (q : Int), (wth p q l).length ≤ l.length
  | [], q => by simp [wth]
  | o :: r, q => by
    have := wth_len p r (nxq q o)
    rw [wth]; split <;> simp <;> omega
theorem depG_wth (p : Int) : ∀ (l : List OC.Op) (q d d' : Int), (q = p ∨ d = d') → depG d' (wth p q l) = dsl p q l (depG d l)
  | [], q, d, d', _ => by simp [wth, dsl, depG]
  | o :: r, q, d, d', h => by
    rw [wth, depG, dsl]
    by_cases hk : nxq q o = p
    · rw [if_pos hk, if_pos hk]; exact depG_wth p r _ _ _ (.inl hk)
    · rw [if_neg hk, if_neg hk, depG, shp_op, after_shp]
      have e : (if o.op = 24 then 0 else d') = (if o.op = 24 then 0 else d) := by
        by_cases h24 : o.op = 24
        · rw [if_pos h24, if_pos h24]
        · rw [nxq_other h24] at hk
          rcases h with h | h
          · exact absurd h hk
          · rw [h]
      rw [e]
      exact congrArg _ (depG_wth p r _ _ _ (.inr rfl))
theorem erase_id {l : List Int} {i : Nat} (h : l.length ≤ i) : l.eraseIdx i = l := List.eraseIdx_of_length_le h
theorem erase_snoc {l : List Int} {i : Nat} {x : Int} (h : i ≠ l.length) : (l ++ [x]).eraseIdx i = l.eraseIdx i ++ [x] := by
  rcases Nat.lt_or_gt_of_ne h with h | h
  · rw [List.eraseIdx_append_of_lt_length h]
  · rw [erase_id (by simp; omega), erase_id (by omega)]
theorem erase_snoc_self {l : List Int} {x : Int} : (l ++ [x]).eraseIdx l.length = l := by
  rw [List.eraseIdx_append_of_length_le (Nat.le_refl _)]; simp
theorem erase_set_self {l : List Int} {i : Nat} {v : Int} : (l.set i v).eraseIdx i = l.eraseIdx i := by
  rw [List.eraseIdx_eq_take_drop_succ, List.eraseIdx_eq_take_drop_succ, List.take_set_of_le (Nat.le_refl _), List.drop_set_of_lt (by omega)]
theorem erase_last {l : List Int} {i : Nat} {v : Int} (h : i + 1 ≠ l.length) : (l.set (l.length - 1) v).eraseIdx i = (l.eraseIdx i).set ((l.eraseIdx i).length - 1) v ∧ (l.eraseIdx i).getD ((l.eraseIdx i).length - 1) 0 = l.getD (l.length - 1) 0 := by
  by_cases hi : l.length ≤ i
  · rw [erase_id (by rw [List.length_set]; exact hi), erase_id hi]; exact ⟨rfl, rfl⟩
  · have hl : (l.eraseIdx i).length = l.length - 1 := List.length_eraseIdx_of_lt (by omega)
    rw [hl]
    constructor
    · rw [List.eraseIdx_set_lt (by omega)]
    · rw [List.getD_eq_getElem?_getD, List.getD_eq_getElem?_getD, List.getElem?_eraseIdx, if_neg (by omega), show l.length - 1 - 1 + 1 = l.length - 1 by omega]
theorem roomG_wth {p : Int} (hp : 1 ≤ p) : ∀ (l : List OC.Op) (ds T : List Int) (q : Int), enm q l → (T.length : Int) = q → roomG (wth p q l) (dsl p q l ds) (T.eraseIdx (p - 1).toNat) = (roomG l ds T).eraseIdx (p - 1).toNat
  | [], ds, T, q, _, _ => by cases ds <;> simp [wth, dsl, roomG]
  | o :: r, [], T, q, _, _ => by simp [dsl, roomG]
  | o :: r, d :: ds, T, q, he, hT => by
    obtain ⟨he1, he2⟩ := he
    rw [wth, dsl, roomG]
    have hT1 : ((if o.op = 24 then T ++ [0] else T).length : Int) = nxq q o := by
      unfold nxq
      by_cases h24 : o.op = 24
      · rw [if_pos h24, if_pos h24, he1 h24]; simp; omega
      · rw [if_neg h24, if_neg h24]; exact hT
    by_cases hk : nxq q o = p
    · rw [if_pos hk, if_pos hk]
      have e : T.eraseIdx (p - 1).toNat = ((if o.op = 24 then T ++ [0] else T).set ((if o.op = 24 then T ++ [0] else T).length - 1) (max (max ((if o.op = 24 then T ++ [0] else T).getD ((if o.op = 24 then T ++ [0] else T).length - 1) 0) d) (OC.after o d))).eraseIdx (p - 1).toNat := by
        have ei : (if o.op = 24 then T ++ [0] else T).length - 1 = (p - 1).toNat := by omega
        rw [ei, erase_set_self]
        by_cases h24 : o.op = 24
        · rw [if_pos h24] at ei ⊢
          have : (p - 1).toNat = T.length := by rw [← ei]; simp
          rw [this, erase_snoc_self, erase_id (Nat.le_refl _)]
        · rw [if_neg h24]
      rw [e]
      exact roomG_wth hp r ds _ _ he2 (by rw [List.length_set]; exact hT1)
    · rw [if_neg hk, if_neg hk, roomG, shp_op, after_shp]
      have e1 : (if o.op = 24 then T.eraseIdx (p - 1).toNat ++ [0] else T.eraseIdx (p - 1).toNat) = (if o.op = 24 then T ++ [0] else T).eraseIdx (p - 1).toNat := by
        by_cases h24 : o.op = 24
        · rw [if_pos h24, if_pos h24, erase_snoc]
          unfold nxq at hk
          rw [if_pos h24, he1 h24] at hk
          omega
        · rw [if_neg h24, if_neg h24]
      have hT2 := hT1
      generalize (if o.op = 24 then T ++ [0] else T) = T1 at *
      have hne : (p - 1).toNat + 1 ≠ T1.length := by omega
      rw [e1, (erase_last (v := max (max (T1.getD (T1.length - 1) 0) d) (OC.after o d)) hne).2, ← (erase_last hne).1]
      exact roomG_wth hp r ds _ _ he2 (by rw [List.length_set]; exact hT1)
/-- the new number of a procedure -/
def fq (p q : Int) : Int := if p ≤ q then q - 1 else q
theorem orderB_enm : ∀ (l : List OC.Op) (first : Bool) (q a k : Int) (P L K : Int), OC.orderB first q a k l = some (P, L, K) → enm q l ∧ curq q l = P
  | [], first, q, a, k, P, L, K, h => by
    rw [OC.orderB] at h
    simp only [Option.some.injEq, Prod.mk.injEq] at h
    exact ⟨trivial, h.1⟩
  | o :: r, first, q, a, k, P, L, K, h => by
    rw [OC.orderB] at h
    split at h
    · cases h
    split at h
    · cases h
    rename_i h2
    split at h
    · cases h
    split at h
    · cases h
    split at h
    · cases h
    have e : (if o.op = 24 then q + 1 else q) = nxq q o := by
      unfold nxq
      by_cases h24 : o.op = 24
      · rw [if_pos h24, if_pos h24]; omega
      · rw [if_neg h24, if_neg h24]
    rw [e] at h
    obtain ⟨h3, h4⟩ := orderB_enm r _ _ _ _ _ _ _ h
    exact ⟨⟨fun h24 => by omega, h3⟩, by rw [curq]; exact h4⟩
theorem nx_skip (p : Int) : ∀ (r : List OC.Op), OC.nx (wth p p r) = 24
  | [] => rfl
  | o :: r => by
    rw [wth]
    by_cases hk : nxq p o = p
    · rw [if_pos hk, hk]; exact nx_skip p r
    · rw [if_neg hk]
      show (shp p o).op = 24
      rw [shp_op]
      by_cases h24 : o.op = 24
      · exact h24
      · exact absurd (nxq_other h24) hk
theorem nx_wth {p q : Int} (h : q ≠ p) : ∀ (r : List OC.Op), OC.nx (wth p q r) = OC.nx r
  | [] => rfl
  | o :: r => by
    rw [wth]
    by_cases hk : nxq q o = p
    · rw [if_pos hk, hk, nx_skip]
      by_cases h24 : o.op = 24
      · exact h24.symm
      · exact absurd ((nxq_other h24).symm.trans hk) h
    · rw [if_neg hk]; exact shp_op p o
theorem fq_step {p q : Int} {o : OC.Op} (he : o.op = 24 → o.n = q + 1) (h : q = p ∨ nxq q o ≠ p) : (if o.op = 24 then fq p q + 1 else fq p q) = fq p (nxq q o) := by
  by_cases h24 : o.op = 24
  · unfold nxq at *
    rw [if_pos h24] at h
    rw [if_pos h24, if_pos h24, he h24]
    rw [he h24] at h
    unfold fq; split <;> split <;> omega
  · rw [if_neg h24, nxq_other h24]
theorem fq_skip {p q : Int} {o : OC.Op} (he : o.op = 24 → o.n = q + 1) (h : nxq q o = p) : fq p q = fq p (nxq q o) := by
  by_cases h24 : o.op = 24
  · unfold nxq at *
    rw [if_pos h24] at h ⊢
    rw [he h24] at h ⊢
    unfold fq; split <;> split <;> omega
  · rw [nxq_other h24]
theorem orderB_wth {p : Int} : ∀ (l : List OC.Op) (first first' : Bool) (q a a' k k' P L : Int), OC.orderB first q a k l = some (P, L, 0) → (∀ o ∈ l, o.op = 29 → 0 ≤ o.m) → 0 ≤ k → ((q = p ∧ k' = 0) ∨ (q ≠ p ∧ k' = k ∧ first' = first)) →
    OC.orderB first' (fq p q) a' k' (wth p q l) = some (fq p P, lmx a' (wth p q l), 0)
  | [], first, first', q, a, a', k, k', P, L, h, _, _, hs => by
    rw [OC.orderB] at h
    simp only [Option.some.injEq, Prod.mk.injEq] at h
    obtain ⟨rfl, _, rfl⟩ := h
    have hk : k' = 0 := by rcases hs with hs | hs <;> omega
    rw [wth, OC.orderB, lmx, hk]
  | o :: r, first, first', q, a, a', k, k', P, L, h, hm, hk0, hs => by
    have hmr : ∀ x ∈ r, x.op = 29 → 0 ≤ x.m := fun x hx => hm x (List.mem_cons_of_mem _ hx)
    have hmo := hm o (List.mem_cons_self ..)
    rw [OC.orderB] at h
    by_cases h1 : decide (0 < k) ≠ decide (o.op = 30)
    · rw [if_pos h1] at h; cases h
    rw [if_neg h1] at h
    by_cases h2 : o.op = 24 ∧ o.n ≠ q + 1
    · rw [if_pos h2] at h; cases h
    rw [if_neg h2] at h
    by_cases h3 : o.op = 19 ∧ ¬ (OC.nx r = 18 ∨ OC.nx r = 28 ∨ OC.nx r = 19)
    · rw [if_pos h3] at h; cases h
    rw [if_neg h3] at h
    by_cases h4 : OC.goesOn o = true ∧ OC.nx r = 24
    · rw [if_pos h4] at h; cases h
    rw [if_neg h4] at h
    by_cases h5 : first = true ∧ o.op ≠ 24
    · rw [if_pos h5] at h; cases h
    rw [if_neg h5] at h
    have he : o.op = 24 → o.n = q + 1 := fun h24 => by
      by_cases hh : o.n = q + 1
      · exact hh
      · exact absurd ⟨h24, hh⟩ h2
    have eq2 : (if o.op = 24 then q + 1 else q) = nxq q o := by
      unfold nxq
      by_cases h24 : o.op = 24
      · rw [if_pos h24, if_pos h24, he h24]
      · rw [if_neg h24, if_neg h24]
    rw [eq2] at h
    have h24k : o.op = 24 → k = 0 := fun h24 => by
      by_cases hp : 0 < k
      · exact absurd (by rw [decide_eq_true hp, decide_eq_false (by omega : ¬ o.op = 30)]; decide) h1
      · omega
    have hkn : 0 ≤ (if o.op = 29 then o.m else if 0 < k then k - 1 else k) := by
      by_cases h29 : o.op = 29
      · rw [if_pos h29]; exact hmo h29
      · rw [if_neg h29]; split <;> omega
    rw [wth]
    by_cases hk : nxq q o = p
    · rw [if_pos hk]
      rw [fq_skip he hk]
      refine orderB_wth r _ first' _ _ a' _ k' P L h hmr hkn (.inl ⟨hk, ?_⟩)
      rcases hs with hs | hs
      · exact hs.2
      · by_cases h24 : o.op = 24
        · rw [hs.2.1, h24k h24]
        · rw [nxq_other h24] at hk; exact absurd hk hs.1
    · rw [if_neg hk]
      have hcase : (o.op = 24 ∧ k' = 0) ∨ (k' = k ∧ first' = first) := by
        rcases hs with hs | hs
        · refine .inl ⟨?_, hs.2⟩
          by_cases h24 : o.op = 24
          · exact h24
          · rw [nxq_other h24] at hk; exact absurd hs.1 hk
        · exact .inr hs.2
      rw [OC.orderB, lmx, shp_op, goesOn_shp, nx_wth hk, shp_m]
      have g1 : ¬ (decide (0 < k') ≠ decide (o.op = 30)) := by
        rcases hcase with ⟨c1, c2⟩ | ⟨c1, c2⟩
        · rw [c2, c1]; decide
        · rw [c1]; exact h1
      have g2 : ¬ (o.op = 24 ∧ (shp p o).n ≠ fq p q + 1) := by
        rintro ⟨h24, hne⟩
        apply hne
        rw [shp_n24 h24, he h24]
        unfold nxq at hk
        rw [if_pos h24, he h24] at hk
        unfold fq; split <;> split <;> omega
      have g5 : ¬ (first' = true ∧ o.op ≠ 24) := by
        rcases hcase with ⟨c1, c2⟩ | ⟨c1, c2⟩
        · exact fun hh => hh.2 c1
        · rw [c2]; exact h5
      rw [if_neg g1, if_neg g2, if_neg h3, if_neg h4, if_neg g5]
      have en : (if o.op = 19 then max a' (shp p o).n else a') = (if o.op = 19 then max a' o.n else a') := by
        by_cases h19 : o.op = 19
        · rw [if_pos h19, if_pos h19, shp_id (by omega) (by omega)]
        · rw [if_neg h19, if_neg h19]
      have ek : (if o.op = 29 then o.m else if 0 < k' then k' - 1 else k') = (if o.op = 29 then o.m else if 0 < k then k - 1 else k) := by
        rcases hcase with ⟨c1, c2⟩ | ⟨c1, c2⟩
        · rw [c2, h24k c1]
        · rw [c1]
      rw [fq_step he (.inr hk), ek]
      exact orderB_wth r _ false _ _ _ _ _ P L h hmr hkn (.inr ⟨hk, rfl, rfl⟩)
theorem numB_shp {nd procs labels L p : Int} {o : OC.Op} (h : OC.numB nd procs labels o = true) (hp : 1 ≤ p) (hp2 : p ≤ procs) (h2 : 2 ≤ procs) (h24 : o.op = 24 → o.n ≠ p) (hl : 0 < OC.label o → OC.label o ≤ L) (h19 : o.op = 19 → o.n ≤ L) : OC.numB nd (procs - 1) L (shp p o) = true := by
  obtain ⟨op, n, m⟩ := o
  dsimp only at h24 h19
  by_cases c1 : op = 24
  · subst c1
    have := h24 rfl
    simp [OC.numB, OC.inB] at h
    by_cases hn : p < n
    · simp [shp, hn, OC.numB, OC.inB]; omega
    · simp [shp, hn, OC.numB, OC.inB]; omega
  by_cases c2 : op = 11
  · subst c2
    simp [OC.numB, OC.inB] at h
    by_cases hn : p < n
    · simp [shp, hn, OC.numB, OC.inB]; omega
    · by_cases hn2 : n = p
      · simp [shp, hn2, OC.numB, OC.inB]; omega
      · simp [shp, hn, hn2, OC.numB, OC.inB]; omega
  rw [shp_id c1 c2]
  by_cases c3 : op = 19
  · subst c3
    have := h19 rfl
    simp [OC.numB, OC.inB] at h ⊢; omega
  by_cases c4 : op = 20 ∨ op = 21 ∨ op = 22 ∨ op = 27
  · have e : OC.label ⟨op, n, m⟩ = n := by rcases c4 with rfl | rfl | rfl | rfl <;> simp [OC.label]
    rw [e] at hl
    rcases c4 with rfl | rfl | rfl | rfl <;> (simp [OC.numB, OC.inB] at h ⊢; omega)
  by_cases c5 : op = 29
  · subst c5
    have e : OC.label ⟨29, n, m⟩ = n := by simp [OC.label]
    rw [e] at hl
    simp [OC.numB, OC.inB] at h ⊢; omega
  by_cases c6 : op = 30
  · subst c6
    have e : OC.label ⟨30, n, m⟩ = m := by simp [OC.label]
    rw [e] at hl
    simp [OC.numB, OC.inB] at h ⊢; omega
  · unfold OC.numB at h ⊢
    have d1 : ¬ (op = 19 ∨ op = 20 ∨ op = 21 ∨ op = 22 ∨ op = 27) := by omega
    simp only [c1, c2, c5, c6, d1, if_false] at h ⊢
    exact h
theorem lmx_ge : ∀ (l : List OC.Op) (a : Int), a ≤ lmx a l ∧ ∀ o ∈ l, o.op = 19 → o.n ≤ lmx a l
  | [], a => ⟨Int.le_refl _, fun o ho => by simp at ho⟩
  | o :: r, a => by
    rw [lmx]
    obtain ⟨h1, h2⟩ := lmx_ge r (if o.op = 19 then max a o.n else a)
    have h3 : a ≤ (if o.op = 19 then max a o.n else a) := by split <;> omega
    refine ⟨Int.le_trans h3 h1, fun x hx h19 => ?_⟩
    rcases List.mem_cons.1 hx with rfl | hx
    · rw [if_pos h19] at h1 ⊢; omega
    · exact h2 x hx h19
theorem lmx_le {b : Int} : ∀ (l : List OC.Op) (a : Int), a ≤ b → (∀ o ∈ l, o.op = 19 → o.n ≤ b) → lmx a l ≤ b
  | [], a, h, _ => h
  | o :: r, a, h, h2 => by
    rw [lmx]
    refine lmx_le r _ ?_ (fun x hx => h2 x (List.mem_cons_of_mem _ hx))
    by_cases h19 : o.op = 19
    · rw [if_pos h19]; have := h2 o (List.mem_cons_self ..) h19; omega
    · rw [if_neg h19]; exact h
/-- what stands in the code without p stood in the code -/
theorem wth_split (p : Int) : ∀ (l : List OC.Op) (q : Int) (A' B' : List OC.Op) (o' : OC.Op), wth p q l = A' ++ o' :: B' → ∃ A o B, l = A ++ o :: B ∧ A' = wth p q A ∧ o' = shp p o ∧ nxq (curq q A) o ≠ p ∧ B' = wth p (nxq (curq q A) o) B
  | [], q, A', B', o', h => by simp [wth] at h
  | x :: r, q, A', B', o', h => by
    rw [wth] at h
    by_cases hk : nxq q x = p
    · rw [if_pos hk] at h
      obtain ⟨A, o, B, e1, e2, e3, e4, e5⟩ := wth_split p r _ A' B' o' h
      refine ⟨x :: A, o, B, by rw [e1]; rfl, ?_, e3, e4, e5⟩
      rw [wth, if_pos hk]; exact e2
    · rw [if_neg hk] at h
      cases A' with
      | nil =>
        simp only [List.nil_append, List.cons.injEq] at h
        exact ⟨[], x, r, rfl, rfl, h.1.symm, hk, h.2.symm⟩
      | cons y A' =>
        simp only [List.cons_append, List.cons.injEq] at h
        obtain ⟨A, o, B, e1, e2, e3, e4, e5⟩ := wth_split p r _ A' B' o' h.2
        refine ⟨x :: A, o, B, by rw [e1]; rfl, ?_, e3, e4, e5⟩
        rw [wth, if_neg hk, e2, h.1]
theorem wth_keep {p q : Int} {A B : List OC.Op} {o : OC.Op} (h : nxq (curq q A) o ≠ p) : wth p q (A ++ o :: B) = wth p q A ++ shp p o :: wth p (nxq (curq q A) o) B := by
  rw [wth_append, wth, if_neg h]
theorem enm_split : ∀ (A B : List OC.Op) (q : Int), enm q (A ++ B) → enm q A ∧ enm (curq q A) B
  | [], B, q, h => ⟨trivial, h⟩
  | o :: r, B, q, h => by
    obtain ⟨h1, h2⟩ := h
    obtain ⟨h3, h4⟩ := enm_split r B _ h2
    exact ⟨⟨h1, h3⟩, h4⟩
/-- the procedures of instructions, counted -/
theorem prc_at : ∀ (A B : List OC.Op) (o : OC.Op) (q : Int), enm q (A ++ o :: B) → (OC.prc q (A ++ o :: B)).getD A.length 0 = nxq (curq q A) o
  | [], B, o, q, h => by
    obtain ⟨h1, _⟩ := h
    rw [List.nil_append, OC.prc]
    show (if o.op = 24 then q + 1 else q) = nxq q o
    unfold nxq
    by_cases h24 : o.op = 24
    · rw [if_pos h24, if_pos h24, h1 h24]
    · rw [if_neg h24, if_neg h24]
  | x :: r, B, o, q, h => by
    obtain ⟨h1, h2⟩ := h
    rw [List.cons_append, OC.prc, curq]
    have e : (if x.op = 24 then q + 1 else q) = nxq q x := by
      unfold nxq
      by_cases h24 : x.op = 24
      · rw [if_pos h24, if_pos h24, h1 h24]
      · rw [if_neg h24, if_neg h24]
    rw [e, List.length_cons, List.getD_cons_succ]
    exact prc_at r B o _ h2
theorem curq_wth {p : Int} : ∀ (A : List OC.Op) (q : Int), enm q A → curq (fq p q) (wth p q A) = fq p (curq q A)
  | [], q, _ => rfl
  | o :: r, q, h => by
    obtain ⟨h1, h2⟩ := h
    rw [wth, curq]
    by_cases hk : nxq q o = p
    · rw [if_pos hk, fq_skip h1 hk]; exact curq_wth r _ h2
    · rw [if_neg hk, curq]
      have e : nxq (fq p q) (shp p o) = fq p (nxq q o) := by
        rw [← fq_step h1 (.inr hk)]
        unfold nxq
        rw [shp_op]
        by_cases h24 : o.op = 24
        · rw [if_pos h24, if_pos h24, shp_n24 h24, h1 h24]
          unfold nxq at hk
          rw [if_pos h24, h1 h24] at hk
          unfold fq; split <;> split <;> omega
        · rw [if_neg h24, if_neg h24]
      rw [e]; exact curq_wth r _ h2
theorem nxq_wth {p q : Int} {o : OC.Op} (h1 : o.op = 24 → o.n = q + 1) (hk : nxq q o ≠ p) : nxq (fq p q) (shp p o) = fq p (nxq q o) := by
  rw [← fq_step h1 (.inr hk)]
  unfold nxq
  rw [shp_op]
  by_cases h24 : o.op = 24
  · rw [if_pos h24, if_pos h24, shp_n24 h24, h1 h24]
    unfold nxq at hk
    rw [if_pos h24, h1 h24] at hk
    unfold fq; split <;> split <;> omega
  · rw [if_neg h24, if_neg h24]
theorem namedB_iff {t Q : List Int} : ∀ (l : List OC.Op) (ps : List Int), ps.length = l.length → (OC.namedB t Q l ps = true ↔ ∀ A o B, l = A ++ o :: B → 0 < OC.label o → 0 ≤ t.getD (OC.label o).toNat (-1) ∧ Q.getD (t.getD (OC.label o).toNat (-1)).toNat 0 = ps.getD A.length 0)
  | [], ps, _ => by
    constructor
    · intro _ A o B h; simp at h
    · intro _; cases ps <;> rfl
  | x :: r, [], h => by simp at h
  | x :: r, p :: ps, h => by
    rw [OC.namedB]
    simp only [Bool.and_eq_true, Bool.or_eq_true, decide_eq_true_eq]
    rw [namedB_iff r ps (by simpa using h)]
    constructor
    · rintro ⟨h1, h2⟩ A o B e h0
      cases A with
      | nil =>
        simp only [List.nil_append, List.cons.injEq] at e
        obtain ⟨rfl, rfl⟩ := e
        rcases h1 with h1 | h1
        · omega
        · simpa using h1
      | cons y A =>
        simp only [List.cons_append, List.cons.injEq] at e
        have := h2 A o B e.2 h0
        simpa using this
    · intro hh
      refine ⟨?_, fun A o B e h0 => ?_⟩
      · by_cases h0 : 0 < OC.label x
        · have := hh [] x r rfl h0
          right; simpa using this
        · left; omega
      · have := hh (x :: A) o B (by rw [e]; rfl) h0
        simpa using this
theorem lbs_append : ∀ (A B : List OC.Op), lbs (A ++ B) = lbs A ++ lbs B
  | [], B => rfl
  | o :: r, B => by
    rw [List.cons_append, lbs, lbs, lbs_append r B]
    split <;> rfl
theorem lbs_sub (p : Int) : ∀ (l : List OC.Op) (q : Int), (lbs (wth p q l)).Sublist (lbs l)
  | [], q => List.Sublist.refl _
  | o :: r, q => by
    have ih := lbs_sub p r (nxq q o)
    rw [wth]
    by_cases hk : nxq q o = p
    · rw [if_pos hk, lbs]
      split
      · exact ih.cons _
      · exact ih
    · rw [if_neg hk, lbs, lbs, shp_op]
      by_cases h19 : o.op = 19
      · rw [if_pos h19, if_pos h19, shp_id (by omega) (by omega)]
        exact ih.cons_cons _
      · rw [if_neg h19, if_neg h19]; exact ih
/-- labels that are there once each have places -/
theorem plc_some : ∀ (l : List OC.Op) (i : Nat) (T : List Int), (lbs l).Nodup → (∀ v ∈ lbs l, 1 ≤ v ∧ v < (T.length : Int)) → (∀ v ∈ lbs l, T.getD v.toNat (-1) < 0) →
    ∃ t, OC.plc l i T = some t ∧ (∀ A o B, l = A ++ o :: B → o.op = 19 → t.getD o.n.toNat (-1) = ((i + A.length : Nat) : Int)) ∧ (∀ u : Nat, (∀ v ∈ lbs l, v.toNat ≠ u) → t.getD u (-1) = T.getD u (-1))
  | [], i, T, _, _, _ => ⟨T, rfl, fun A o B h => by simp at h, fun u _ => rfl⟩
  | x :: r, i, T, hn, hb, hT => by
    rw [OC.plc]
    by_cases h19 : x.op = 19
    · have e : lbs (x :: r) = x.n :: lbs r := by rw [lbs, if_pos h19]
      rw [e] at hn hb hT
      obtain ⟨hn1, hn2⟩ := List.nodup_cons.1 hn
      have hbx := hb _ (List.mem_cons_self ..)
      have hTx := hT _ (List.mem_cons_self ..)
      have hdiff : ∀ v ∈ lbs r, x.n.toNat ≠ v.toNat := fun v hv hh => by
        have hbv := hb v (List.mem_cons_of_mem _ hv)
        have e2 : x.n = v := by omega
        exact hn1 (by rw [e2]; exact hv)
      rw [if_pos h19, if_neg (by omega)]
      obtain ⟨t, t1, t2, t3⟩ := plc_some r (i + 1) (T.set x.n.toNat i) hn2 (fun v hv => by rw [List.length_set]; exact hb v (List.mem_cons_of_mem _ hv)) (fun v hv => by rw [getD_set_ne (hdiff v hv)]; exact hT v (List.mem_cons_of_mem _ hv))
      refine ⟨t, t1, fun A o B h ho => ?_, fun u hu => ?_⟩
      · cases A with
        | nil =>
          simp only [List.nil_append, List.cons.injEq] at h
          obtain ⟨rfl, rfl⟩ := h
          rw [t3 _ (fun v hv hh => hdiff v hv hh.symm), getD_set_self (by omega)]
          simp
        | cons y A =>
          simp only [List.cons_append, List.cons.injEq] at h
          rw [t2 A o B h.2 ho, List.length_cons]
          congr 1; omega
      · rw [e] at hu
        rw [t3 u (fun v hv => hu v (List.mem_cons_of_mem _ hv)), getD_set_ne (hu _ (List.mem_cons_self ..))]
    · have e : lbs (x :: r) = lbs r := by rw [lbs, if_neg h19]
      rw [e] at hn hb hT
      rw [if_neg h19]
      obtain ⟨t, t1, t2, t3⟩ := plc_some r (i + 1) T hn hb hT
      refine ⟨t, t1, fun A o B h ho => ?_, fun u hu => t3 u (by rw [e] at hu; exact hu)⟩
      cases A with
      | nil =>
        simp only [List.nil_append, List.cons.injEq] at h
        exact absurd (by rw [h.1]; exact ho) h19
      | cons y A =>
        simp only [List.cons_append, List.cons.injEq] at h
        rw [t2 A o B h.2 ho, List.length_cons]
        congr 1; omega
theorem landsB_skip (p : Int) : ∀ (r : List OC.Op), OC.landsB (wth p p r) = false
  | [] => rfl
  | o :: r => by
    rw [wth]
    by_cases hk : nxq p o = p
    · rw [if_pos hk, hk]; exact landsB_skip p r
    · rw [if_neg hk, OC.landsB, shp_op]
      have h24 : o.op = 24 := by
        by_cases h24 : o.op = 24
        · exact h24
        · exact absurd (nxq_other h24) hk
      rw [h24]; rfl
theorem landsB_wth {p : Int} : ∀ (l : List OC.Op) (q : Int), q ≠ p → OC.landsB (wth p q l) = OC.landsB l
  | [], q, _ => rfl
  | o :: r, q, h => by
    rw [wth]
    by_cases hk : nxq q o = p
    · have h24 : o.op = 24 := by
        by_cases h24 : o.op = 24
        · exact h24
        · exact absurd ((nxq_other h24).symm.trans hk) h
      rw [if_pos hk, hk, landsB_skip, OC.landsB, h24]; rfl
    · rw [if_neg hk, OC.landsB, OC.landsB, shp_op, landsB_wth r _ hk]
theorem deepB_wth {p : Int} {ops ops' : List OC.Op} {t t' : List Int} : ∀ (l : List OC.Op) (q d d' : Int) (fr fr' : Bool) (pv pv' : OC.Op), (q = p ∨ (d' = d ∧ fr' = fr ∧ pv'.op = pv.op)) →
    (∀ A o B, l = A ++ o :: B → nxq (curq q A) o ≠ p → 0 < OC.label o → OC.landsB (ops'.drop (t'.getD (OC.label o).toNat (-1)).toNat) = OC.landsB (ops.drop (t.getD (OC.label o).toNat (-1)).toNat)) →
    OC.deepB ops t d fr pv l = true → OC.deepB ops' t' d' fr' pv' (wth p q l) = true
  | [], q, d, d', fr, fr', pv, pv', _, _, _ => rfl
  | o :: r, q, d, d', fr, fr', pv, pv', hs, hl, h => by
    have hlr : ∀ A x B, r = A ++ x :: B → nxq (curq (nxq q o) A) x ≠ p → 0 < OC.label x → OC.landsB (ops'.drop (t'.getD (OC.label x).toNat (-1)).toNat) = OC.landsB (ops.drop (t.getD (OC.label x).toNat (-1)).toNat) := fun A x B e => hl (o :: A) x B (by rw [e]; rfl)
    have hlo := hl [] o r rfl
    rw [OC.deepB] at h
    rw [wth]
    by_cases h24 : o.op = 24
    · rw [if_pos h24] at h
      by_cases hk : nxq q o = p
      · rw [if_pos hk]
        exact deepB_wth r _ _ d' _ fr' _ pv' (.inl hk) hlr h
      · rw [if_neg hk, OC.deepB, shp_op, if_pos h24, shp_m]
        exact deepB_wth r _ _ _ _ _ _ _ (.inr ⟨rfl, rfl, shp_op p o⟩) hlr h
    · rw [if_neg h24] at h
      have hno := nxq_other (q := q) h24
      split at h
      · cases h
      rename_i hb
      split at h
      · cases h
      rename_i hc
      split at h
      · cases h
      rename_i hd
      by_cases hk : nxq q o = p
      · rw [if_pos hk]
        exact deepB_wth r _ _ d' _ fr' _ pv' (.inl hk) hlr h
      · rw [if_neg hk, OC.deepB, shp_op, if_neg h24, needs_shp, after_shp, localB_shp, label_shp, goesOn_shp]
        obtain ⟨rfl, rfl, e3⟩ : d' = d ∧ fr' = fr ∧ pv'.op = pv.op := by
          rcases hs with hs | hs
          · rw [hno] at hk; exact absurd hs hk
          · exact hs
        rw [e3, if_neg hb, if_neg hc]
        rw [if_neg (fun hh => hd ⟨hh.1, by rw [← hlo hk hh.1]; exact hh.2⟩)]
        exact deepB_wth r _ _ _ _ _ _ _ (.inr ⟨rfl, rfl, shp_op p o⟩) hlr h
/-- code without one of its procedures is valid, and has the depths and rooms of the others -/
theorem wth_ok {c : OC.Code} {p : Int} (h : checkE c = 0) (hp : 1 ≤ p) (hp2 : p ≤ c.procs) (h2 : 2 ≤ c.procs) : checkE (wthC c p) = 0 ∧ enm 0 c.ops ∧ depG 0 (wth p 0 c.ops) = dsl p 0 c.ops (depG 0 c.ops) ∧ roomG (wth p 0 c.ops) (depG 0 (wth p 0 c.ops)) [] = (roomG c.ops (depG 0 c.ops) []).eraseIdx (p - 1).toNat := by
  obtain ⟨hT, hp0, hl0, ha, hN, hO, t, ht, hn, hd⟩ := checkE_zero.1 h
  have hO' : OC.orderB true 0 0 0 c.ops = some (c.procs, c.labels, 0) := by simpa [OC.orderOk] using hO
  obtain ⟨hen, _⟩ := orderB_enm _ _ _ _ _ _ _ _ hO'
  have hdep : depG 0 (wth p 0 c.ops) = dsl p 0 c.ops (depG 0 c.ops) := depG_wth p c.ops 0 0 0 (.inr rfl)
  have hroom : roomG (wth p 0 c.ops) (depG 0 (wth p 0 c.ops)) [] = (roomG c.ops (depG 0 c.ops) []).eraseIdx (p - 1).toNat := by
    have := roomG_wth hp c.ops (depG 0 c.ops) [] 0 hen rfl
    rw [hdep]; simpa using this
  refine ⟨?_, hen, hdep, hroom⟩
  have hlb : ∀ v ∈ lbs c.ops, 1 ≤ v ∧ v ≤ c.labels := by
    intro v hv
    obtain ⟨o, ho, h19, rfl⟩ := mem_lbs.1 hv
    have := hN o ho
    obtain ⟨op, n, m⟩ := o
    dsimp only at h19
    subst h19
    simp [OC.numB, OC.inB] at this ⊢
    omega
  have hlen0 : (OC.t0 c).length = (c.labels + 1).toNat := by simp [OC.t0]
  have hrep : ∀ (n : Nat) (u : Nat), (List.replicate n (-1 : Int)).getD u (-1) = -1 := fun n u => by
    rw [List.getD_eq_getElem?_getD, List.getElem?_replicate]; split <;> rfl
  have hmin : ∀ (u : Nat), (OC.t0 c).getD u (-1) = -1 := fun u => by rw [OC.t0]; exact hrep _ u
  have hmin' : ∀ (u : Nat), (OC.t0 (wthC c p)).getD u (-1) = -1 := fun u => by rw [OC.t0]; exact hrep _ u
  obtain ⟨hnd, _, hin⟩ := plc_nodup c.ops 0 (OC.t0 c) t ht (fun v hv => by have := hlb v hv; rw [hlen0]; omega)
  have hin' : ∀ u : Int, 0 ≤ u → 0 ≤ t.getD u.toNat (-1) → u ∈ lbs c.ops := fun u h0 h1 => by
    rcases hin u h0 h1 with hh | hh
    · exact hh
    · rw [hmin] at hh; omega
  obtain ⟨t1, ht1, hpl, _⟩ := plc_some c.ops 0 (OC.t0 c) hnd (fun v hv => by have := hlb v hv; rw [hlen0]; omega) (fun v _ => by rw [hmin]; omega)
  rw [ht] at ht1
  simp only [Option.some.injEq] at ht1
  subst ht1
  -- the labels that are left
  have hsub := lbs_sub p c.ops 0
  have hnd' : (lbs (wth p 0 c.ops)).Nodup := hsub.nodup hnd
  have hlm := lmx_ge (wth p 0 c.ops) 0
  have hlb' : ∀ v ∈ lbs (wth p 0 c.ops), 1 ≤ v ∧ v ≤ lmx 0 (wth p 0 c.ops) := fun v hv => by
    have h1 := hlb v (hsub.subset hv)
    obtain ⟨o, ho, h19, rfl⟩ := mem_lbs.1 hv
    exact ⟨h1.1, hlm.2 o ho h19⟩
  have hlmx : lmx 0 (wth p 0 c.ops) ≤ c.labels := lmx_le _ _ hl0 (fun o ho h19 => (hlb o.n (hsub.subset (mem_lbs.2 ⟨o, ho, h19, rfl⟩))).2)
  have hlen0' : (OC.t0 (wthC c p)).length = (lmx 0 (wth p 0 c.ops) + 1).toNat := by simp [OC.t0, wthC]
  obtain ⟨t', ht', hpl', _⟩ := plc_some (wth p 0 c.ops) 0 (OC.t0 (wthC c p)) hnd' (fun v hv => by have := hlb' v hv; rw [hlen0']; omega) (fun v _ => by rw [hmin']; omega)
  -- what is named
  have hnm := (namedB_iff (t := t) (Q := OC.prc 0 c.ops) c.ops _ (prc_len _ _)).1 hn
  have key : ∀ A o B, c.ops = A ++ o :: B → nxq (curq 0 A) o ≠ p → 0 < OC.label o → ∃ A2 x B2, c.ops = A2 ++ x :: B2 ∧ x.op = 19 ∧ x.n = OC.label o ∧ nxq (curq 0 A2) x = nxq (curq 0 A) o := by
    intro A o B e hk h0
    obtain ⟨k1, k2⟩ := hnm A o B e h0
    obtain ⟨x, hx, hx19, hxn⟩ := mem_lbs.1 (hin' _ (by omega) k1)
    obtain ⟨A2, B2, e2⟩ := List.append_of_mem hx
    refine ⟨A2, x, B2, e2, hx19, hxn, ?_⟩
    have h3 := hpl A2 x B2 e2 hx19
    rw [hxn] at h3
    rw [h3] at k2
    rw [show ((0 + A2.length : Nat) : Int).toNat = A2.length by simp] at k2
    have p1 : (OC.prc 0 c.ops).getD A2.length 0 = nxq (curq 0 A2) x := by
      have := prc_at A2 B2 x 0 (by rw [← e2]; exact hen)
      rw [← e2] at this; exact this
    have p2 : (OC.prc 0 c.ops).getD A.length 0 = nxq (curq 0 A) o := by
      have := prc_at A B o 0 (by rw [← e]; exact hen)
      rw [← e] at this; exact this
    rw [p1, p2] at k2
    exact k2
  have key2 : ∀ A o B, c.ops = A ++ o :: B → nxq (curq 0 A) o ≠ p → 0 < OC.label o → ∃ A2 x B2, c.ops = A2 ++ x :: B2 ∧ x.op = 19 ∧ x.n = OC.label o ∧ nxq (curq 0 A2) x = nxq (curq 0 A) o ∧ t.getD (OC.label o).toNat (-1) = (A2.length : Int) ∧ t'.getD (OC.label o).toNat (-1) = ((wth p 0 A2).length : Int) ∧ wth p 0 c.ops = wth p 0 A2 ++ x :: wth p (nxq (curq 0 A2) x) B2 := by
    intro A o B e hk h0
    obtain ⟨A2, x, B2, e2, hx19, hxn, hq⟩ := key A o B e hk h0
    have hk2 : nxq (curq 0 A2) x ≠ p := by rw [hq]; exact hk
    have hw : wth p 0 c.ops = wth p 0 A2 ++ x :: wth p (nxq (curq 0 A2) x) B2 := by
      rw [e2, wth_keep hk2, shp_id (by omega) (by omega)]
    refine ⟨A2, x, B2, e2, hx19, hxn, hq, ?_, ?_, hw⟩
    · have := hpl A2 x B2 e2 hx19
      rw [hxn] at this; rw [this]; simp
    · have := hpl' _ x _ hw hx19
      rw [hxn] at this; rw [this]; simp
  have hlab : ∀ A o B, c.ops = A ++ o :: B → nxq (curq 0 A) o ≠ p → 0 < OC.label o → OC.label o ≤ lmx 0 (wth p 0 c.ops) := by
    intro A o B e hk h0
    obtain ⟨A2, x, B2, e2, hx19, hxn, hq, _, _, hw⟩ := key2 A o B e hk h0
    have := hlm.2 x (by rw [hw]; simp) hx19
    omega
  have hord := orderB_wth (p := p) c.ops true true 0 0 0 0 0 _ _ hO' (fun o ho h29 => by
    have := hN o ho
    obtain ⟨op, n, m⟩ := o
    dsimp only at h29
    subst h29
    simp [OC.numB, OC.inB] at this ⊢
    omega) (Int.le_refl 0) (.inr ⟨by omega, rfl, rfl⟩)
  have hf0 : fq p 0 = 0 := by unfold fq; rw [if_neg (by omega)]
  have hfP : fq p c.procs = c.procs - 1 := by unfold fq; rw [if_pos hp2]
  rw [hf0, hfP] at hord
  refine checkE_zero.2 ⟨?_, by show (0 : Int) ≤ c.procs - 1; omega, ?_, ?_, ?_, ?_, t', ht', ?_, ?_⟩
  · unfold OC.tooMuch at hT ⊢
    simp only [Bool.or_eq_false_iff, decide_eq_false_iff_not] at hT ⊢
    obtain ⟨⟨⟨⟨k1, k2⟩, k3⟩, k4⟩, k5⟩ := hT
    refine ⟨⟨⟨⟨?_, k2⟩, ?_⟩, ?_⟩, k5⟩
    · show ¬ 40000 < (wth p 0 c.ops).length
      have := wth_len p c.ops 0
      omega
    · show ¬ (200 : Int) < c.procs - 1
      omega
    · show ¬ (20000 : Int) < lmx 0 (wth p 0 c.ops)
      omega
  · exact hlm.1
  · unfold areasB at ha ⊢
    simp only [Bool.and_eq_true] at ha ⊢
    exact ⟨⟨ha.1.1, rfl⟩, ha.2⟩
  · intro o' ho'
    obtain ⟨A', B', e'⟩ := List.append_of_mem ho'
    obtain ⟨A, o, B, e, _, rfl, hk, _⟩ := wth_split p c.ops 0 A' B' o' e'
    have ho : o ∈ c.ops := by rw [e]; simp
    have hkeep := wth_keep (B := B) hk
    rw [← e] at hkeep
    refine numB_shp (hN o ho) hp hp2 h2 (fun h24 hh => hk (by unfold nxq; rw [if_pos h24]; exact hh)) (hlab A o B e hk) (fun h19 => ?_)
    have := hlm.2 (shp p o) (by rw [hkeep]; simp) (by rw [shp_op]; exact h19)
    rw [shp_id (by omega) (by omega)] at this
    exact this
  · unfold OC.orderOk
    rw [decide_eq_true_eq]
    exact hord
  · show OC.namedB t' (OC.prc 0 (wth p 0 c.ops)) (wth p 0 c.ops) (OC.prc 0 (wth p 0 c.ops)) = true
    obtain ⟨hen', _⟩ := orderB_enm _ _ _ _ _ _ _ _ hord
    refine (namedB_iff _ _ (prc_len _ _)).2 fun A' o' B' e' h0 => ?_
    obtain ⟨A, o, B, e, rfl, rfl, hk, _⟩ := wth_split p c.ops 0 A' B' o' e'
    rw [label_shp] at h0 ⊢
    obtain ⟨A2, x, B2, e2, hx19, hxn, hq, _, hr, hw⟩ := key2 A o B e hk h0
    rw [hr]
    refine ⟨by omega, ?_⟩
    rw [Int.toNat_natCast]
    have p1 : (OC.prc 0 (wth p 0 c.ops)).getD (wth p 0 A2).length 0 = nxq (curq 0 (wth p 0 A2)) x := by
      have := prc_at (wth p 0 A2) _ x 0 (by rw [← hw]; exact hen')
      rw [← hw] at this; exact this
    have p2 : (OC.prc 0 (wth p 0 c.ops)).getD (wth p 0 A).length 0 = nxq (curq 0 (wth p 0 A)) (shp p o) := by
      have := prc_at (wth p 0 A) _ (shp p o) 0 (by rw [← e']; exact hen')
      rw [← e'] at this; exact this
    have he2 := enm_split A2 (x :: B2) 0 (by rw [← e2]; exact hen)
    have he := enm_split A (o :: B) 0 (by rw [← e]; exact hen)
    have c2 := curq_wth (p := p) A2 0 he2.1
    have c1 := curq_wth (p := p) A 0 he.1
    rw [hf0] at c1 c2
    rw [p1, p2, c1, c2, nxq_wth he.2.1 hk]
    have hk2 : nxq (curq 0 A2) x ≠ p := by rw [hq]; exact hk
    have := nxq_wth he2.2.1 hk2
    rw [shp_id (by omega) (by omega)] at this
    rw [this, hq]
  · show OC.deepB (wth p 0 c.ops) t' 0 false OC.oz (wth p 0 c.ops) = true
    refine deepB_wth c.ops 0 0 0 false false OC.oz OC.oz (.inr ⟨rfl, rfl, rfl⟩) (fun A o B e hk h0 => ?_) hd
    obtain ⟨A2, x, B2, e2, hx19, hxn, hq, hl, hr, hw⟩ := key2 A o B e hk h0
    rw [hl, hr, Int.toNat_natCast, Int.toNat_natCast]
    have d1 : c.ops.drop A2.length = x :: B2 := by rw [e2]; simp
    have d2 : (wth p 0 c.ops).drop (wth p 0 A2).length = x :: wth p (nxq (curq 0 A2) x) B2 := by rw [hw]; simp
    rw [d1, d2, OC.landsB, OC.landsB, hx19]
    simp only [if_true]
    exact landsB_wth _ _ (by rw [hq]; exact hk)
end Go.Proofs.YtfnkafnjpldaoaaDoor
