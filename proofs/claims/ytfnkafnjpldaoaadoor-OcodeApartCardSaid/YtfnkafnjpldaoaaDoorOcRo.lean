/- The room of procedures, in the document's words. -/
import Derived.Test.YtfnkafnjpldaoaaDoorOcJu
import Derived.Test.YtfnkafnjpldaoaaDoorLastJ
namespace Go.Proofs.YtfnkafnjpldaoaaDoor
open Go.RowKit
set_option linter.unusedVariables false
set_option linter.unusedSimpArgs false
def roomG : List OC.Op → List Int → List Int → List Int
  | o :: r, d :: ds, t =>
    let t1 := if o.op = 24 then t ++ [0] else t
    roomG r ds (t1.set (t1.length - 1) (max (max (t1.getD (t1.length - 1) 0) d) (OC.after o d)))
  | _, _, t => t
theorem depG_bd {ops : List OC.Op} {t : List Int} : ∀ {r : List OC.Op} {d : Int}, DeepOk ops t d r → (∀ o ∈ r, o.op = 24 → 0 ≤ o.m ∧ o.m ≤ 8) → 0 ≤ d → d ≤ 4000 → ∀ z ∈ depG d r, 0 ≤ z ∧ z ≤ 4000
  | [], d, _, _, _, _, z, hz => by simp [depG] at hz
  | o :: r, d, h, hm, h0, h1, z, hz => by
    rw [depG] at hz
    obtain ⟨n1, n2, n3⟩ := h.next (hm o (List.mem_cons_self ..))
    rcases List.mem_cons.1 hz with rfl | hz
    · split <;> omega
    · exact depG_bd n1 (fun x hx => hm x (List.mem_cons_of_mem _ hx)) n2 n3 z hz
theorem maxIf (a b : Int) : (if a < b then b else a) = max a b := by omega
theorem below_thenB' {w w1 w2 : World} {b : Nat} (h : Below b w w1) (k : Below w1.heap.size w1 w2) (hb : b ≤ w1.heap.size := by omega) : Below b w w2 := h.trans (k.mono hb)
theorem owns_pos {w : World} {base : Nat} {e : TypeId} {size : Nat} {v : Value} {n : Nat} {xs : List Value} (h : w.ownsRow base e size v n xs) (hn : 0 < n) : ∃ g cap, v = .slice (some ⟨g, 0, none⟩) n cap := by
  rcases h.2 with ⟨rfl, h0⟩ | ⟨g, cap, cur, rfl, _⟩
  · omega
  · exact ⟨_, _, rfl⟩
end Go.Proofs.YtfnkafnjpldaoaaDoor
