/- A slice of tokens that is not empty. -/
import Derived.Test.YtpcepfoebkmbgaaLxLawS
namespace Go.Proofs.Ytpcepfoebkmbgaa
open Go.RowKit
theorem RdT.open {w : World} {v : Value} {ts : List LX.Tok} (h : RdT w v ts) (hne : 0 < ts.length) : ∃ b off cap, v = .slice (some ⟨b, off, none⟩) ts.length cap ∧ ∀ i, i < ts.length →
    w.cell? ⟨b, off + i * 4, none⟩ = some (.int .i64 ((ts.getD i tz).kind : Int)) ∧ w.cell? ⟨b, off + i * 4 + 1, none⟩ = some (.string ⟨(ts.getD i tz).s.toArray⟩) ∧
    w.cell? ⟨b, off + i * 4 + 2, none⟩ = some (.int .i64 (ts.getD i tz).n) ∧ w.cell? ⟨b, off + i * 4 + 3, none⟩ = some (.int .i64 ((ts.getD i tz).pos : Int)) := by
  obtain ⟨a, cap, hv, hl, h⟩ := h
  rcases h with h | ⟨b, off, rfl, hc⟩
  · rw [h] at hne; simp at hne
  · exact ⟨b, off, cap, hv, hc⟩
end Go.Proofs.Ytpcepfoebkmbgaa
