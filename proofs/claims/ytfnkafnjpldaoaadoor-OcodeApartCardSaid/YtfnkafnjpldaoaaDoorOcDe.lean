/- The depths of code, in the document's words. -/
import Derived.Test.YtfnkafnjpldaoaaDoorOcCk
namespace Go.Proofs.YtfnkafnjpldaoaaDoor
open Go.RowKit
set_option linter.unusedVariables false
set_option linter.unusedSimpArgs false
/-- the depth before each instruction -/
def depG : Int → List OC.Op → List Int
  | _, [] => []
  | d, o :: r => (if o.op = 24 then 0 else d) :: depG (OC.after o (if o.op = 24 then 0 else d)) r
theorem depG_len : ∀ (d : Int) (l : List OC.Op), (depG d l).length = l.length
  | _, [] => rfl
  | d, o :: r => by rw [depG, List.length_cons, depG_len _ r, List.length_cons]
/-- from here on depths are as said -/
def DeepOk (ops : List OC.Op) (t : List Int) (d : Int) (r : List OC.Op) : Prop := ∃ fr pv, OC.deepB ops t d fr pv r = true
theorem after_enter {n m d : Int} : OC.after ⟨24, n, m⟩ d = 2 + m := by simp [OC.after]
theorem DeepOk.next {ops : List OC.Op} {t : List Int} {d : Int} {o : OC.Op} {r : List OC.Op} (h : DeepOk ops t d (o :: r)) (hm : o.op = 24 → 0 ≤ o.m ∧ o.m ≤ 8) :
    DeepOk ops t (OC.after o (if o.op = 24 then 0 else d)) r ∧ 0 ≤ OC.after o (if o.op = 24 then 0 else d) ∧ OC.after o (if o.op = 24 then 0 else d) ≤ 4000 := by
  obtain ⟨fr, pv, h⟩ := h
  rw [OC.deepB] at h
  by_cases h24 : o.op = 24
  · rw [if_pos h24] at h ⊢
    have e : OC.after o 0 = 2 + o.m := by obtain ⟨op, n, m⟩ := o; simp only at h24; subst h24; exact after_enter
    have := hm h24
    rw [e]
    exact ⟨⟨_, _, h⟩, by omega, by omega⟩
  · rw [if_neg h24] at h ⊢
    split at h
    · cases h
    · rename_i hb
      split at h
      · cases h
      · split at h
        · cases h
        · have hin : OC.inB (OC.after o d) 2 4000 = true := by
            cases hi : OC.inB (OC.after o d) 2 4000 with
            | true => rfl
            | false => exact absurd (.inr (.inl hi)) hb
          have := inB_iff.1 hin
          exact ⟨⟨_, _, h⟩, by omega, this.2⟩
theorem checkE_ok {c : OC.Code} (h : checkE c = 0) : NumOk c ∧ OC.orderOk c = true ∧ 0 ≤ c.labels ∧ c.labels ≤ 20000 ∧ 0 ≤ c.procs ∧ c.procs ≤ 200 ∧ ∃ t, OC.plc c.ops 0 (OC.t0 c) = some t ∧ OC.namedB t (OC.prc 0 c.ops) c.ops (OC.prc 0 c.ops) = true ∧ OC.deepB c.ops t 0 false OC.oz c.ops = true := by
  unfold checkE at h
  split at h
  · cases h
  · rename_i hT
    split at h
    · cases h
    · rename_i hP
      split at h
      · cases h
      · rename_i hN
        split at h
        · cases h
        · rename_i hO
          have hlab : c.labels ≤ 20000 ∧ c.procs ≤ 200 := by unfold OC.tooMuch at hT; simp at hT; omega
          refine ⟨fun o ho => List.all_eq_true.1 (by simpa using hN) o ho, by simpa using hO, by omega, hlab.1, by omega, hlab.2, ?_⟩
          split at h
          · cases h
          · rename_i t ht
            split at h
            · cases h
            · rename_i hn
              split at h
              · cases h
              · rename_i hd
                exact ⟨t, ht, by simpa using hn, by simpa using hd⟩
theorem owns_form' {w : World} {base : Nat} {e : TypeId} {size : Nat} {v : Value} {n : Nat} {xs : List Value} (h : w.ownsRow base e size v n xs) : ∃ a cap, v = .slice a n cap := by
  rcases h.2 with ⟨rfl, rfl⟩ | ⟨g, cap, cur, rfl, _⟩
  · exact ⟨_, _, rfl⟩
  · exact ⟨_, _, rfl⟩
theorem owns_keep' {w w' : World} {base : Nat} {e : TypeId} {size : Nat} {v : Value} {n : Nat} {xs : List Value} (h : w.ownsRow base e size v n xs) (hb : Below w.heap.size w w') : w'.ownsRow base e size v n xs :=
  h.kept (row := none) ⟨hb.os, hb.tape, hb.output, hb.size, fun i hi _ => hb.block i hi⟩ (by cases v.ownBlock <;> simp)
end Go.Proofs.YtfnkafnjpldaoaaDoor
