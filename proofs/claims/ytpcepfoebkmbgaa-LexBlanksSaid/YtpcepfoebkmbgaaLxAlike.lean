/- Two lists of tokens that are the same but for their places are found so. -/
import Derived.Test.YtpcepfoebkmbgaaLxTok
import Derived.Test.YtpcepfoebkmbgaaLxPart
import Derived.Test.YtpcepfoebkmbgaaLxLawM
import Derived.Outline
namespace Go.Proofs.Ytpcepfoebkmbgaa
open Go.RowKit
set_option linter.unusedVariables false
set_option maxHeartbeats 1000000 in
theorem alike_c (v1 v2 : Value) (ts us : List LX.Tok) (w : World) (h1 : RdT w v1 ts) (h2 : RdT w v2 us) (hA : LX.Alike ts us) (hne : 0 < ts.length) :
    Calls Try.prog 23 #[v1, v2] w fun e w' => e = .returned (.bool true) ∧ Below w.heap.size w w' := by
  obtain ⟨a1, c1, rfl, hl1, h1⟩ := h1
  obtain ⟨a2, c2, rfl, hl2, h2⟩ := h2
  obtain ⟨hlen, hall⟩ := hA
  rw [← hlen] at h2 ⊢
  obtain ⟨L, hL⟩ : ∃ L, L = ts.length := ⟨_, rfl⟩
  rw [← hL] at h1 h2 hl1 hall hne ⊢
  have hLu : us.length = L := by rw [← hlen, ← hL]
  obtain ⟨b1, o1, rfl, hc1⟩ : ∃ b off, a1 = some ⟨b, off, none⟩ ∧ ∀ i, i < L → w.cell? ⟨b, off + i * 4, none⟩ = some (.int .i64 ((ts.getD i tz).kind : Int)) ∧ w.cell? ⟨b, off + i * 4 + 1, none⟩ = some (.string ⟨(ts.getD i tz).s.toArray⟩) ∧
    w.cell? ⟨b, off + i * 4 + 2, none⟩ = some (.int .i64 (ts.getD i tz).n) ∧ w.cell? ⟨b, off + i * 4 + 3, none⟩ = some (.int .i64 ((ts.getD i tz).pos : Int)) := by
    rcases h1 with h | h
    · rw [h] at hL; simp at hL; omega
    · exact h
  obtain ⟨b2, o2, rfl, hc2⟩ : ∃ b off, a2 = some ⟨b, off, none⟩ ∧ ∀ i, i < L → w.cell? ⟨b, off + i * 4, none⟩ = some (.int .i64 ((ts.getD i tz).kind : Int)) ∧ w.cell? ⟨b, off + i * 4 + 1, none⟩ = some (.string ⟨(ts.getD i tz).s.toArray⟩) ∧
    w.cell? ⟨b, off + i * 4 + 2, none⟩ = some (.int .i64 (ts.getD i tz).n) := by
    rcases h2 with h | h
    · rw [h] at hLu; simp at hLu; omega
    · obtain ⟨b, off, e, h⟩ := h
      refine ⟨b, off, e, fun i hi => ?_⟩
      obtain ⟨x0, x1, x2, _⟩ := h i hi
      have ha : (ts.getD i tz).kind = (us.getD i tz).kind ∧ (ts.getD i tz).s = (us.getD i tz).s ∧ (ts.getD i tz).n = (us.getD i tz).n := hall i hi
      rw [ha.1, ha.2.1, ha.2.2]
      exact ⟨x0, x1, x2⟩
  clear h1 h2 hl2 hL hLu hall hlen hne
  go_enter Try.func23, Try.ntmps23
  go_wp2
  go_loopw [5] (fun i wr => ∃ k : Nat, k ≤ L ∧ i = .int .i64 k ∧ Below w.heap.size w wr) (fun i _ => L - (intOf i).toNat)
  case atStart => exact ⟨0, Nat.zero_le _, rfl, Below.refl _ _⟩
  case round =>
    obtain ⟨k, hk, rfl, hnx⟩ := hrel
    by_cases hlt : k < L
    · obtain ⟨x0, x1, x2, x3⟩ := hc1 k hlt
      obtain ⟨y0, y1, y2⟩ := hc2 k hlt
      have q0 := (hnx.cell (p := ⟨b1, o1 + k * 4, none⟩) (World.block_lt_of_cell? w _ x0)).trans x0
      have q1 := (hnx.cell (p := ⟨b1, o1 + k * 4 + 1, none⟩) (World.block_lt_of_cell? w _ x1)).trans x1
      have q2 := (hnx.cell (p := ⟨b1, o1 + k * 4 + 2, none⟩) (World.block_lt_of_cell? w _ x2)).trans x2
      have p0 := (hnx.cell (p := ⟨b2, o2 + k * 4, none⟩) (World.block_lt_of_cell? w _ y0)).trans y0
      have p1 := (hnx.cell (p := ⟨b2, o2 + k * 4 + 1, none⟩) (World.block_lt_of_cell? w _ y1)).trans y1
      have p2 := (hnx.cell (p := ⟨b2, o2 + k * 4 + 2, none⟩) (World.block_lt_of_cell? w _ y2)).trans y2
      have k0 : (0 : Int) ≤ (k : Int) := by omega
      have k1 : (k : Int) < (L : Int) := by omega
      clear hc1 hc2 x0 x1 x2 x3 y0 y1 y2
      generalize ts.getD k tz = t at *
      go_wp2
      go_quiet (fail)
      go_wp2
      go_roundw
      case rel => exact ⟨k + 1, by omega, by go_num, below_drewN hnx _⟩
      case measure => simp [intOf]; omega
    · obtain rfl : k = L := by omega
      clear hc1 hc2
      go_wp2
      go_ret
      exact ⟨rfl, hnx⟩
end Go.Proofs.Ytpcepfoebkmbgaa
