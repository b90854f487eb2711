/- What every law of this layer asks first, and last. -/
import Derived.Test.YtfnkafnjpldaoaaDoorOcPr
import Derived.Test.YtfnkafnjpldaoaaDoorOcEc
namespace Go.Proofs.YtfnkafnjpldaoaaDoor
open Go.RowKit
set_option linter.unusedVariables false
set_option linter.unusedSimpArgs false
/-- code that lies in memory, where the table of instructions stands -/
structure CodeI (w : World) (c : OC.Code) (da oa ga : Option Addr) (dl dc ol oc gl gc : Nat) : Prop extends CodeIn w c da oa ga dl dc ol oc gl gc where
  inst : InstAt w
theorem CodeI.keep {w w' : World} {c : OC.Code} {da oa ga : Option Addr} {dl dc ol oc gl gc : Nat} (h : CodeI w c da oa ga dl dc ol oc gl gc) (hb : Below w.heap.size w w') : CodeI w' c da oa ga dl dc ol oc gl gc :=
  ⟨h.toCodeIn.keep hb, h.inst.keep hb (Nat.le_refl _)⟩
set_option maxRecDepth 100000 in
set_option maxHeartbeats 2000000 in
theorem heavy_c (c : OC.Code) (da oa ga : Option Addr) (dl dc ol oc gl gc : Nat) (w : World) (hc : CodeIn w c da oa ga dl dc ol oc gl gc) (ht : ∀ d ∈ c.data, d.text.length ≤ 140737488351232) :
    Calls Tryd.prog 4 #[codeV c da oa ga dl dc ol oc gl gc] w fun e w' => e = .returned (.bool (heavyC c 40100)) ∧ Below w.heap.size w w' := by
  have HC := Lib.hid hc
  have HR : Hid (∀ W, CodeIn W c da oa ga dl dc ol oc gl gc → Calls Tryd.prog 10 #[codeV c da oa ga dl dc ol oc gl gc, .int .i64 40100] W fun e w' => e = .returned (.bool (heavyC c 40100)) ∧ Below W.heap.size W w') := fun W hW => HeavyCode_c c da oa ga dl dc ol oc gl gc 40100 W (by decide) hW ht
  obtain ⟨H, hH⟩ : ∃ b, heavyC c 40100 = b := ⟨_, rfl⟩
  rw [hH] at HR ⊢
  obtain ⟨name, data, ops, globals, procs, labels⟩ := c
  clear hc ht hH
  go_enter Tryd.func4, Tryd.ntmps4
  go_wp2_with (go_at_call 10; refine (HR.out _ (HC.out.keep (below_alloc _ _))).mono ?_; rintro e w1 ⟨rfl, hb1⟩)
  go_ret
  exact ⟨rfl, below_then (below_alloc _ _) hb1⟩
theorem EqInts_yes (v1 v2 : Value) (xs : List Int) (w : World) (h1 : Rd .i64 w v1 xs) (h2 : Rd .i64 w v2 xs) :
    Calls Tryd.prog 9 #[v1, v2] w fun e w' => e = .returned (.bool true) ∧ Below w.heap.size w w' :=
  (EqInts_c v1 v2 xs xs w h1 h2).mono fun e w' h => by simpa using h
def awC : OC.Code := ⟨[], [], [⟨24, 1, 0⟩, ⟨1, 65, 0⟩, ⟨25, 0, 0⟩], [], 1, 0⟩
theorem awC_dep : checkE awC = 0 ∧ depG 0 awC.ops = [0, 2, 3] := by decide +kernel
theorem awC_q : checkQ awC = 0 := (checkQ_zero awC).2 awC_dep.1
theorem awC_small : Small awC := ⟨by decide, by decide, by decide⟩
set_option maxRecDepth 100000 in
set_option maxHeartbeats 2000000 in
theorem awake_c (w : World) (hi : InstAt w) : Calls Tryd.prog 5 #[] w fun e w' => e = .returned (.bool true) ∧ Below w.heap.size w w' := by
  have HD : Hid (∀ (W : World) (b : Nat), InstAt W → W.cell? ⟨b, 0, none⟩ = some (.int .i64 24) → W.cell? ⟨b, 1, none⟩ = some (.int .i64 1) → W.cell? ⟨b, 2, none⟩ = some (.int .i64 0) → W.cell? ⟨b, 3, none⟩ = some (.int .i64 1) → W.cell? ⟨b, 4, none⟩ = some (.int .i64 65) → W.cell? ⟨b, 5, none⟩ = some (.int .i64 0) → W.cell? ⟨b, 6, none⟩ = some (.int .i64 25) → W.cell? ⟨b, 7, none⟩ = some (.int .i64 0) → W.cell? ⟨b, 8, none⟩ = some (.int .i64 0) →
      Calls Tryd.prog 6 #[.agg #[.string ⟨#[]⟩, .slice none 0 0, .slice (some ⟨b, 0, none⟩) 3 3, .slice none 0 0, .int .i64 1, .int .i64 0]] W fun e w' => (∃ v, e = .returned (.tuple #[v, .int .i64 0]) ∧ Rd .i64 w' v [0, 2, 3]) ∧ Below W.heap.size W w') := by
    intro W b hiW h0 h1 h2 h3 h4 h5 h6 h7 h8
    have hin : CodeIn W awC none (some ⟨b, 0, none⟩) none 0 0 3 3 0 0 := by
      refine ⟨RdP.nil W, ⟨_, _, rfl, by decide, ⟨by decide, fun h => by cases h⟩, .inr ⟨b, 0, rfl, fun i hi => ?_⟩⟩, RdP.nil W, by decide⟩
      have hi3 : i < 3 := hi
      match i, hi3 with
      | 0, _ => exact ⟨h0, h1, h2⟩
      | 1, _ => exact ⟨h3, h4, h5⟩
      | 2, _ => exact ⟨h6, h7, h8⟩
    have h := DepthsP_c awC none (some ⟨b, 0, none⟩) none 0 0 3 3 0 0 W hin awC_small hiW
    refine h.mono ?_
    rintro e w' ⟨⟨v, he, hr⟩, hb⟩
    rw [depA, awC_dep.1, if_pos rfl, awC_dep.2] at hr
    rw [awC_q] at he
    exact ⟨⟨v, he, hr⟩, hb⟩
  have LIT : Hid (∀ (W : World) (T : TypeId), Rd .i64 (W.alloc (.cells #[.int .i64 0, .int .i64 2, .int .i64 3] T)) (.slice (some ⟨W.heap.size, 0, none⟩) 3 3) [0, 2, 3]) := by
    intro W T
    refine ⟨_, _, rfl, by decide, .inr ⟨W.heap.size, 0, rfl, fun i hi => ?_⟩⟩
    have hi3 : i < 3 := hi
    match i, hi3 with
    | 0, _ => exact (World.cell?_alloc_at _ _ _ _ rfl).trans rfl
    | 1, _ => exact (World.cell?_alloc_at _ _ _ _ rfl).trans rfl
    | 2, _ => exact (World.cell?_alloc_at _ _ _ _ rfl).trans rfl
  go_enter Tryd.func5, Tryd.ntmps5
  go_wp2_with (first
    | (go_at_call 6; refine (HD.out _ w.heap.size (hi.keep (below_then (below_alloc _ _) (below_alloc _ _)) (Nat.le_refl _)) (by exact ((below_alloc (w.alloc _) _).cell (p := ⟨w.heap.size, 0, none⟩) (by simp)).trans ((World.cell?_alloc_at _ _ _ _ rfl).trans rfl)) (by exact ((below_alloc (w.alloc _) _).cell (p := ⟨w.heap.size, 1, none⟩) (by simp)).trans ((World.cell?_alloc_at _ _ _ _ rfl).trans rfl)) (by exact ((below_alloc (w.alloc _) _).cell (p := ⟨w.heap.size, 2, none⟩) (by simp)).trans ((World.cell?_alloc_at _ _ _ _ rfl).trans rfl)) (by exact ((below_alloc (w.alloc _) _).cell (p := ⟨w.heap.size, 3, none⟩) (by simp)).trans ((World.cell?_alloc_at _ _ _ _ rfl).trans rfl)) (by exact ((below_alloc (w.alloc _) _).cell (p := ⟨w.heap.size, 4, none⟩) (by simp)).trans ((World.cell?_alloc_at _ _ _ _ rfl).trans rfl)) (by exact ((below_alloc (w.alloc _) _).cell (p := ⟨w.heap.size, 5, none⟩) (by simp)).trans ((World.cell?_alloc_at _ _ _ _ rfl).trans rfl)) (by exact ((below_alloc (w.alloc _) _).cell (p := ⟨w.heap.size, 6, none⟩) (by simp)).trans ((World.cell?_alloc_at _ _ _ _ rfl).trans rfl)) (by exact ((below_alloc (w.alloc _) _).cell (p := ⟨w.heap.size, 7, none⟩) (by simp)).trans ((World.cell?_alloc_at _ _ _ _ rfl).trans rfl)) (by exact ((below_alloc (w.alloc _) _).cell (p := ⟨w.heap.size, 8, none⟩) (by simp)).trans ((World.cell?_alloc_at _ _ _ _ rfl).trans rfl))).mono ?_; rintro e w1 ⟨⟨v1, rfl, hr1⟩, hb1⟩)
    | (go_at_call 9; refine (EqInts_c _ _ [0, 2, 3] [0, 2, 3] _ (hr1.keep (below_alloc _ _)) (LIT.out _ _)).mono ?_; rintro e w2 ⟨rfl, hb2⟩))
  go_ret
  exact ⟨rfl, below_then (below_then (below_then (below_then (below_alloc _ _) (below_alloc _ _)) hb1) (below_alloc _ _)) hb2⟩
end Go.Proofs.YtfnkafnjpldaoaaDoor
