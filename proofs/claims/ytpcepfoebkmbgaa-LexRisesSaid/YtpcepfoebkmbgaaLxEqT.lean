/- Two lists of tokens that are the same are found so. -/
import Derived.Test.YtpcepfoebkmbgaaLxTok
import Derived.Test.YtpcepfoebkmbgaaLxPart
import Derived.Laws.StructEq
import Derived.Outline
namespace Go.Proofs.Ytpcepfoebkmbgaa
open Go.RowKit
set_option linter.unusedVariables false
set_option maxHeartbeats 1000000 in
theorem eqTokens_c (v1 v2 : Value) (ts : List LX.Tok) (w : World) (h1 : RdT w v1 ts) (h2 : RdT w v2 ts) :
    Calls Try.prog 12 #[v1, v2] w fun e w' => e = .returned (.bool true) ∧ Below w.heap.size w w' := by
  obtain ⟨a1, c1, rfl, hl1, h1⟩ := h1
  obtain ⟨a2, c2, rfl, hl2, h2⟩ := h2
  obtain ⟨L, hL⟩ : ∃ L, L = ts.length := ⟨_, rfl⟩
  rw [← hL] at h1 h2 hl1 ⊢
  have HL := Lib.hid hL
  clear hl2 hL
  rcases h1 with rfl | ⟨b1, o1, rfl, hc1⟩
  · have : L = 0 := HL.out
    subst this
    clear h2
    go_enter Try.func12, Try.ntmps12
    go_wp2
    refine wp_loop_rounds 1 ?_
    rw [rounds_succ]
    go_wp2
    go_ret
    exact ⟨rfl, Below.refl _ _⟩
  rcases h2 with rfl | ⟨b2, o2, rfl, hc2⟩
  · have : L = 0 := HL.out
    subst this
    clear hc1
    go_enter Try.func12, Try.ntmps12
    go_wp2
    refine wp_loop_rounds 1 ?_
    rw [rounds_succ]
    go_wp2
    go_ret
    exact ⟨rfl, Below.refl _ _⟩
  go_enter Try.func12, Try.ntmps12
  go_wp2
  go_loopw [5] (fun i wr => ∃ k : Nat, k ≤ L ∧ i = .int .i64 k ∧ Below w.heap.size w wr) (fun i _ => L - (intOf i).toNat)
  case atStart => exact ⟨0, Nat.zero_le _, rfl, Below.refl _ _⟩
  case round =>
    obtain ⟨k, hk, rfl, hnx⟩ := hrel
    by_cases hlt : k < L
    · obtain ⟨x0, x1, x2, x3⟩ := hc1 k hlt
      obtain ⟨y0, y1, y2, y3⟩ := hc2 k hlt
      have q0 := (hnx.cell (p := ⟨b1, o1 + k * 4, none⟩) (World.block_lt_of_cell? w _ x0)).trans x0
      have q1 := (hnx.cell (p := ⟨b1, o1 + k * 4 + 1, none⟩) (World.block_lt_of_cell? w _ x1)).trans x1
      have q2 := (hnx.cell (p := ⟨b1, o1 + k * 4 + 2, none⟩) (World.block_lt_of_cell? w _ x2)).trans x2
      have q3 := (hnx.cell (p := ⟨b1, o1 + k * 4 + 3, none⟩) (World.block_lt_of_cell? w _ x3)).trans x3
      have p0 := (hnx.cell (p := ⟨b2, o2 + k * 4, none⟩) (World.block_lt_of_cell? w _ y0)).trans y0
      have p1 := (hnx.cell (p := ⟨b2, o2 + k * 4 + 1, none⟩) (World.block_lt_of_cell? w _ y1)).trans y1
      have p2 := (hnx.cell (p := ⟨b2, o2 + k * 4 + 2, none⟩) (World.block_lt_of_cell? w _ y2)).trans y2
      have p3 := (hnx.cell (p := ⟨b2, o2 + k * 4 + 3, none⟩) (World.block_lt_of_cell? w _ y3)).trans y3
      have k0 : (0 : Int) ≤ (k : Int) := by omega
      have k1 : (k : Int) < (L : Int) := by omega
      clear hc1 hc2 x0 x1 x2 x3 y0 y1 y2 y3
      generalize ts.getD k tz = t at *
      go_wp2
      go_quiet (fail)
      go_wp2
      go_roundw
      case rel => exact ⟨k + 1, by omega, by go_num, below_drewN hnx _⟩
      case measure => simp [intOf]; omega
    · obtain rfl : k = L := by omega
      clear hc1 hc2
      go_wp2
      go_ret
      exact ⟨rfl, hnx⟩
end Go.Proofs.Ytpcepfoebkmbgaa
