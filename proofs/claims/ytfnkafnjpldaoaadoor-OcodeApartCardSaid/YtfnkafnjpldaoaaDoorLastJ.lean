/- A region whose LAST operation may break what the others rely on (a store into a cell that the region loads): S is asked for behind every operation but that one ('d'). Like the library's 'wpAnyH' and its law, with that difference: what is taken by S must be waited for by 'd', link by link. -/
import Derived.Deep.RegionHeld3
import Derived.StillTail
namespace Go.Proofs.YtfnkafnjpldaoaaDoor
section
variable {P : Program} {ops : Array Oper} {Q : Exit → Act → World → Prop} {md : Region.Mode} {S : World → Prop} {d : Nat}
/-- S holds behind each operation but d. -/
def OrdJ (P : Program) (md : Region.Mode) (ops : Array Oper) (Q : Exit → Act → World → Prop) (S : World → Prop) (d : Nat) : Nat → Array Bool → Act → World → Prop :=
  fun n => Nat.rec (fun l a w => Region.ready md ops l = [] ∧ Q .normal a w)
    (fun _ ih l a w => (Region.ready md ops l = [] → Q .normal a w) ∧
      ∀ i ∈ Region.ready md ops l, wpOp P ops Q i (fun a' w' => (i ≠ d → S w') ∧ ih (l.setIfInBounds i true) a' w') a w) n
theorem OrdJ.zero {l : Array Bool} {a : Act} {w : World} : OrdJ P md ops Q S d 0 l a w ↔ (Region.ready md ops l = [] ∧ Q .normal a w) := Iff.rfl
theorem OrdJ.succ {n : Nat} {l : Array Bool} {a : Act} {w : World} : OrdJ P md ops Q S d (n + 1) l a w ↔ ((Region.ready md ops l = [] → Q .normal a w) ∧
      ∀ i ∈ Region.ready md ops l, wpOp P ops Q i (fun a' w' => (i ≠ d → S w') ∧ OrdJ P md ops Q S d n (l.setIfInBounds i true) a' w') a w) := Iff.rfl
theorem OrdJ.any : ∀ (n : Nat) {l : Array Bool} {a : Act} {w : World}, OrdJ P md ops Q S d n l a w → wpAny P md ops Q n l a w
  | 0, _, _, _, h => h
  | n + 1, _, _, _, h => by
    obtain ⟨h0, h1⟩ := OrdJ.succ.1 h
    exact ⟨h0, fun i hi => wpOp_mono (fun a' w' h' => OrdJ.any n h'.2) (h1 i hi)⟩
/-- Each of the row waits for the one before it, and none has come up. -/
def linksB (md : Region.Mode) (ops : Array Oper) (l : Array Bool) : Nat → List Nat → Bool
  | _, [] => true
  | p, q :: r => Region.waitsFor md ops q p && !(l.getD q true) && linksB md ops l q r
theorem linksB_not : ∀ {ch : List Nat} {p : Nat} {l : Array Bool}, linksB md ops l p ch = true → l.getD p true = false → ∀ c ∈ ch, ¬ c ∈ Region.ready md ops l
  | [], _, _, _, _, c, hc => by cases hc
  | q :: r, p, l, h, hp, c, hc => by
    simp only [linksB, Bool.and_eq_true, Bool.not_eq_true'] at h
    rcases List.mem_cons.1 hc with rfl | hc
    · intro hr
      obtain ⟨o, ho, e, he, hb, hon⟩ := Region.waitsFor_spec h.1.1
      obtain ⟨_, o', ho', hall⟩ := mem_ready.1 hr
      rw [ho] at ho'
      obtain rfl := Option.some.inj ho'
      have h1 := hall e he hb
      rw [hon] at h1
      rcases Nat.lt_or_ge p l.size with h' | h'
      · simp [h'] at hp h1; rw [hp] at h1; cases h1
      · simp [Array.getElem?_eq_none h'] at h1
    · exact linksB_not h.2 h.1.2 c hc
theorem linksB_set : ∀ {ch : List Nat} {p j : Nat} {l : Array Bool}, linksB md ops l p ch = true → (∀ c ∈ ch, j ≠ c) → linksB md ops (l.setIfInBounds j true) p ch = true
  | [], _, _, _, _, _ => rfl
  | q :: r, p, j, l, h, hj => by
    simp only [linksB, Bool.and_eq_true, Bool.not_eq_true'] at h ⊢
    refine ⟨⟨h.1.1, ?_⟩, linksB_set h.2 (fun c hc => hj c (List.mem_cons_of_mem _ hc))⟩
    rw [getD_set_ne true (hj q (List.mem_cons_self ..))]
    exact h.1.2
theorem OrdJ.first {i : Nat} {oi : Oper} {v : Value} {ch : List Nat} (hi : ops[i]? = some oi) (hsel : ∀ (j : Nat) (o : Oper) cs b, ops[j]? = some o → o.op ≠ .select cs b)
    (hd : d ∈ ch) (hQ : ∀ c a w, Q (.panic c) (a.put oi.dst v) w → Q (.panic c) a w) : ∀ (n : Nat) (l : Array Bool) (a : Act) (w : World), linksB md ops l i ch = true →
      (∀ j oj, ops[j]? = some oj → j ≠ i → l.getD j true = false → (∀ e ∈ oj.after, Region.binds md e = true → e.on ≠ i) → oi.apart ops oj = true) →
      i ∈ Region.ready md ops l → YieldsIf P ops S oi v a → S w → OrdJ P md ops Q S d n (l.setIfInBounds i true) (a.put oi.dst v) w → OrdJ P md ops Q S d (n + 1) l a w := by
  intro n
  induction n with
  | zero =>
    intro l a w _ _ hr hy hS H
    have H0 := (OrdJ.zero.1 H).1
    refine OrdJ.succ.2 ⟨fun e => absurd (e ▸ hr) (List.not_mem_nil), fun j hj => ?_⟩
    by_cases hji : j = i
    · subst hji; exact hy.wpOp hi hS ⟨fun _ => hS, H⟩
    · have h1 := ready_mono hj hji
      rw [H0] at h1
      cases h1
  | succ n ih =>
    intro l a w hch hfree hr hy hS H
    have hiun := (mem_ready.1 hr).1
    refine OrdJ.succ.2 ⟨fun e => absurd (e ▸ hr) (List.not_mem_nil), fun j hj => ?_⟩
    by_cases hji : j = i
    · subst hji; exact hy.wpOp hi hS ⟨fun _ => hS, H⟩
    have hjc : ∀ c ∈ ch, j ≠ c := fun c hc e => linksB_not hch hiun c hc (e ▸ hj)
    have h1 := (OrdJ.succ.1 H).2 j (ready_mono hj hji)
    obtain ⟨hjun, oj, hoj, hall⟩ := mem_ready.1 hj
    have hnot : ∀ e ∈ oj.after, Region.binds md e = true → e.on ≠ i := by
      intro e he hb heq
      have h1 := hall e he hb
      rw [heq] at h1
      rcases Nat.lt_or_ge i l.size with h' | h'
      · simp [h'] at hiun h1; rw [hiun] at h1; cases h1
      · simp [Array.getElem?_eq_none h'] at h1
    refine wpOp_mono (fun a' w' h3 => ?_) (wpOp_putIf hoj (hfree j oj hoj hji hjun hnot) (fun cs b => hsel i oi cs b hi) (fun cs b => hsel j oj cs b hoj) hQ hy h1)
    have hSw := h3.2.1 (hjc d hd)
    refine ⟨fun _ => hSw, ih (l.setIfInBounds j true) a' w' (linksB_set hch hjc) (fun k ok hk hki hun hno => hfree k ok hk hki ?_ hno) (ready_mono hr (Ne.symm hji)) h3.1 hSw ?_⟩
    · by_cases hjk : j = k
      · subst hjk; exact hjun
      · rw [getD_set_ne true hjk] at hun; exact hun
    · rw [Array.setIfInBounds_comm _ _ hji]
      exact h3.2.2
/-- Number i is taken first, d waiting for it by way of 'ch'. -/
theorem OrdJ.take {i : Nat} {dd : Tmp} {oi : Oper} {v : Value} {n : Nat} {ch : List Nat} {l : Array Bool} {a : Act} {w : World} (hi : ops[i]? = some oi) (hdd : oi.dst = some dd)
    (hs : Region.noSelect ops = true) (hf : Region.free md ops l i = true) (hr : (Region.ready md ops l).contains i = true) (hl : linksB md ops l i ch = true) (hd : ch.contains d = true)
    (hQ : ∀ c a w, Q (.panic c) (a.put (some dd) v) w → Q (.panic c) a w) (hy : YieldsIf P ops S oi v a) (hS : S w)
    (h : OrdJ P md ops Q S d n (l.setIfInBounds i true) (a.put (some dd) v) w) : OrdJ P md ops Q S d (n + 1) l a w :=
  OrdJ.first hi (Region.noSelect_spec hs) (by simpa using hd) (by rw [hdd]; exact hQ) n l a w hl (Region.free_spec hi hf) (by simpa using hr) hy hS (by rw [hdd]; exact h)
/-- One operation alone is ready, and it is not d: behind it S. -/
theorem OrdJ.one {i n : Nat} {o : Oper} {l : Array Bool} {a : Act} {w : World} (hr : Region.ready md ops l = [i]) (ho : ops[i]? = some o)
    (h : ∀ K' : Act → World → Prop, Shut (∀ a w, ((i ≠ d → S w) ∧ OrdJ P md ops Q S d n (l.setIfInBounds i true) a w) → K' a w) → if Region.wanted o (yielded ops a.tmps) = true then Oper.wp P o a w K' Q else K' (a.put o.dst undef) w) : OrdJ P md ops Q S d (n + 1) l a w :=
  OrdJ.succ.2 ⟨fun e => absurd (hr.symm.trans e) (by simp), fun j hj => (by
    rw [hr] at hj
    obtain rfl := List.mem_singleton.1 hj
    exact wpOp_step ho (fun K' hK => h K' (fun a w hS => hK a w hS)))⟩
theorem OrdJ.done {n : Nat} {l : Array Bool} {a : Act} {w : World} (hr : Region.ready md ops l = []) (h : Q .normal a w) : OrdJ P md ops Q S d n l a w := by
  cases n with
  | zero => exact ⟨hr, h⟩
  | succ n => exact OrdJ.succ.2 ⟨fun _ => h, fun i hi => (by rw [hr] at hi; cases hi)⟩
/-- The beginning. -/
theorem OrdJ.wp {id : Nat} {a : Act} {w : World} (d : Nat) (hm : P.follows .mixedOrders = true) (hS : S w.drew)
    (h : S w.drew → OrdJ P .any ops Q S d ops.size (Array.replicate ops.size false) a w.drew) : (Code.region id ops true).wp P Q a w :=
  wp_region_any hm (OrdJ.any _ (h hS))
end
end Go.Proofs.YtfnkafnjpldaoaaDoor
