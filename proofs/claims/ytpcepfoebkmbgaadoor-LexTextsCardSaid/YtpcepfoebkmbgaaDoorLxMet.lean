/- The program's scanner: what a method that reads a token leaves. -/
import Derived.Test.YtpcepfoebkmbgaaDoorLxSkip2
import Derived.Maps.OwnOps
namespace Go.Proofs.YtpcepfoebkmbgaaDoor
open Go.RowKit
set_option linter.unusedVariables false
/-- what a method that reads a token gives, and how it leaves the scanner -/
def TokM (r : LX.Res) (e : Ending) (w : World) (b : Nat) (s : ByteArray) (p : Nat) (km sg : Value) : Prop :=
  match r with
  | .good kd x n len => e = .returned (.tuple #[.agg #[.int .i64 (kd : Int), .string ⟨x.toArray⟩, .int .i64 n, .int .i64 0], .int .i64 0]) ∧ Scn w b s p (p + len) km sg
  | .bad er => e = .returned (.tuple #[.agg #[.int .i64 0, .string ⟨#[]⟩, .int .i64 0, .int .i64 0], .int .i64 (er : Int)]) ∧ ∃ q, Scn w b s p q km sg
theorem TokM.good {r : LX.Res} {kd len : Nat} {x : LX.Bs} {n : Int} (h : r = .good kd x n len) {w : World} {b : Nat} {s : ByteArray} {p q : Nat} {km sg : Value} {a c : Int} {y : ByteArray} (ha : a = kd) (hy : y = ⟨x.toArray⟩) (hc : c = n) (hq : q = p + len) (hS : Scn w b s p q km sg) :
    TokM r (.returned (.tuple #[.agg #[.int .i64 a, .string y, .int .i64 c, .int .i64 0], .int .i64 0])) w b s p km sg := by
  subst h ha hy hc hq; exact ⟨rfl, hS⟩
theorem TokM.bad {r : LX.Res} {er : Nat} (h : r = .bad er) {w : World} {b : Nat} {s : ByteArray} {p q : Nat} {km sg : Value} {a : Int} (ha : a = (er : Int)) (hS : Scn w b s p q km sg) :
    TokM r (.returned (.tuple #[.agg #[.int .i64 0, .string ⟨#[]⟩, .int .i64 0, .int .i64 0], .int .i64 a])) w b s p km sg := by
  subst h ha; exact ⟨rfl, q, hS⟩
theorem TokM.form {r : LX.Res} {e : Ending} {w : World} {b : Nat} {s : ByteArray} {p : Nat} {km sg : Value} (h : TokM r e w b s p km sg) : (∃ (a : Int) (y : ByteArray) (c x : Int), e = .returned (.tuple #[.agg #[.int .i64 a, .string y, .int .i64 c, .int .i64 0], .int .i64 x])) ∧ ∃ q, Scn w b s p q km sg := by
  unfold TokM at h
  split at h
  · exact ⟨⟨_, _, _, _, h.1⟩, _, h.2⟩
  · exact ⟨⟨_, _, _, _, h.1⟩, h.2⟩
/-- cells of a block that a call which writes to block b alone leaves as they were -/
theorem only_cells {W wr : World} {b r : Nat} (hg : W.grownBy wr (some b)) (hr : r < W.heap.size) (hne : r ≠ b) : (∀ o, wr.cell? ⟨r, o, none⟩ = W.cell? ⟨r, o, none⟩) ∧ ∀ o, wr.frozen? ⟨r, o, none⟩ = W.frozen? ⟨r, o, none⟩ :=
  ⟨fun o => World.cell?_of_block (hg.block r hr (by simpa using hne)), fun o => World.frozen?_of_block (hg.block r hr (by simpa using hne))⟩
theorem wpList_lookup_keys {w : World} {ops : Array Oper} {rest : List Oper} {o : Oper} {a : Act} {Q : Exit → Act → World → Prop} (hg : o.guard = none) (m x : Operand) (hop : o.op = Op.lookup 43 m x false) (b : Nat)
    (hm : a.eval m = .map (some b)) (hown : Keys w b) (y : ByteArray) (hx : a.eval x = .string y) (hy : y.size ≤ maxLen) (r : Bool) (hr : decide (bs y ∈ LX.keyL) = r)
    (hK : wpList Tryd.prog ops Q rest (a.put o.dst (.bool r)) w) : wpList Tryd.prog ops Q (o :: rest) a w := by
  refine wpList_plain hg fun K' hK' => ?_
  have hrun := hown.look y hy
  rw [hr] at hrun
  unfold Oper.wp
  simp [execOp, hop, hm, hx, hrun, Result.andThen]
  exact hK' _ _ hK
theorem Scn.alloc {w : World} {b : Nat} {s : ByteArray} {p q : Nat} {km sg : Value} (h : Scn w b s p q km sg) (o : Obj) : Scn (w.alloc o) b s p q km sg := h.kept (below_alloc w o)
theorem Scn.far {w : World} {b : Nat} {s : ByteArray} {p q : Nat} {km sg : Value} (h : Scn w b s p q km sg) {a : Addr} (ha : a.block ≠ b) (v : Value) : Scn (w.setCell a v) b s p q km sg := by
  obtain ⟨h0, h1, h2, h3, h4, h5⟩ := h
  have e : ∀ o, a ≠ ⟨b, o, none⟩ := fun o h => ha (by rw [h])
  refine ⟨?_, ?_, ?_, ?_, ?_, ?_⟩
  · exact (World.cell?_setCell_other _ _ _ _ (e 0)).trans h0
  · exact (World.cell?_setCell_other _ _ _ _ (e 1)).trans h1
  · exact (World.cell?_setCell_other _ _ _ _ (e 2)).trans h2
  · exact (World.cell?_setCell_other _ _ _ _ (e 3)).trans h3
  · exact (World.cell?_setCell_other _ _ _ _ (e 4)).trans h4
  · intro o; simp [h5]
theorem Scn.farR {w : World} {b : Nat} {s : ByteArray} {p q : Nat} {km sg : Value} (r o : Nat) (hr : r ≠ b) (v : Value) (h : Scn w b s p q km sg) : Scn (w.setCell ⟨r, o, none⟩ v) b s p q km sg := h.far hr v
theorem only_setR {a w : World} {g : Nat} (r o : Nat) (hr : a.heap.size ≤ r) (v : Value) (h : a.grownBy w (some g)) : a.grownBy (w.setCell ⟨r, o, none⟩ v) (some g) := only_setCell h (.inr hr) v
set_option maxHeartbeats 400000 in
theorem end_c (s : ByteArray) (b p : Nat) (km sg : Value) (w : World) (hS : Scn w b s p p km sg) :
    Calls Tryd.prog 40 #[.pointer (some ⟨b, 0, none⟩)] w fun e w' => e = .returned (.tuple #[.agg #[.int .i64 0, .string ⟨#[]⟩, .int .i64 0, .int .i64 0], .int .i64 0]) ∧ Scn w' b s p p km sg ∧ w.grownBy w' (some b) := by
  go_enter Tryd.func40, Tryd.ntmps40
  go_wp2
  exact bodyPost_ret (v := .tuple #[.agg #[.int .i64 0, .string ⟨#[]⟩, .int .i64 0, .int .i64 0], .int .i64 0]) (by simp [results, Tryd.results40, go_sem]) rfl ⟨rfl, hS.alloc _, only_alloc (only_refl _ _) _⟩
end Go.Proofs.YtpcepfoebkmbgaaDoor
