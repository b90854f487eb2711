/- PutByte and join of the reference, each by its contract. -/
import Derived.Test.YtmhifelkihcidaaWPut
import Derived.Test.YtmhifelkihcidaaWBMath2
namespace Go.Proofs.Ytmhifelkihcidaa
open Go.RowKit WM
set_option linter.unusedVariables false

set_option maxHeartbeats 800000 in
theorem refjoin_c (v : Value) (ls : List Int) (n : Int) (g : Bool) (hb : IsBits n) (hl : ls.length ≤ 4) (hl1 : 1 ≤ ls.length) (hbd : ∀ j, 0 ≤ ls.getD j 0 ∧ ls.getD j 0 ≤ 255) (w : World) (hv : Rd .i64 w v ls) :
    Calls Try.prog 64 #[v, .agg #[.int .i64 n, .bool g]] w fun e w' => e = .returned (.int .i64 (jw n g ls)) ∧ Below w.heap.size w w' := by
  obtain ⟨a, cap, rfl, hlen, hc⟩ := hv
  rcases hc with rfl | ⟨b, off, rfl, hc⟩
  · simp at hl1
  have HJW : Hid (jw n g ls = nm n (jr g ls ls.length)) := rfl
  obtain ⟨m, hmx⟩ : ∃ m, m = ls.length := ⟨_, rfl⟩
  rw [← hmx] at hl hl1 HJW hc ⊢
  have hbB := World.block_lt_of_cell? w _ (hc 0 (by omega))
  have HREL : Hid (∀ i, jr g ls (i + 1) = jr g ls i * 256 + ls.getD (jpos g m i) 0) := by intro i; rw [jr, hmx]
  have HBD : Hid (∀ j, 0 ≤ ls.getD j 0 ∧ ls.getD j 0 ≤ 255) := hbd
  have HC : Hid (∀ i, i < m → w.cell? ⟨b, off + i, none⟩ = some (.int .i64 (ls.getD i 0))) := hc
  clear hmx hbd hc hlen
  go_enter Try.func64, Try.ntmps64
  go_wp2_with fail
  go_loop [5, 6] (fun v i => ∃ k : Nat, k ≤ m ∧ i = .int .i64 k ∧ v = .int .i64 (jr g ls k)) (fun _ i => m - (intOf i).toNat)
  case atStart => exact ⟨0, Nat.zero_le _, rfl, rfl⟩
  case round =>
    obtain ⟨k, hk, rfl, rfl⟩ := hrel
    by_cases hlt : k < m
    · have hj := jr_bd' g ls HBD.out k (by omega)
      have hp : jpos g m k < m := by unfold jpos; split <;> omega
      have hby := HBD.out (jpos g m k)
      have q1 := ((below_alloc w (.cells #[.int .i64 n, .bool g] 27)).cell (p := ⟨b, off + jpos g m k, none⟩) hbB).trans (HC.out _ hp)
      have HS := Lib.hid (HREL.out k)
      generalize hx : ls.getD (jpos g m k) 0 = x at *
      clear hx
      generalize hy : jr g ls k = y at *
      clear hy
      cases g with
      | false =>
        have e0 : jpos false m k = m - 1 - k := rfl
        rw [e0] at q1
        clear e0
        have hidx : (m : Int) - 1 - (k : Int) = ((m - 1 - k : Nat) : Int) := by omega
        go_wp2
        go_round
        case rel => exact ⟨k + 1, by omega, by go_num, by rw [show jr false ls (k + 1) = _ from HS]⟩
        case measure => simp [intOf]; omega
      | true =>
        have e0 : jpos true m k = k := rfl
        rw [e0] at q1
        clear e0
        go_wp2
        go_round
        case rel => exact ⟨k + 1, by omega, by go_num, by rw [show jr true ls (k + 1) = _ from HS]⟩
        case measure => simp [intOf]; omega
    · obtain rfl : k = m := by omega
      clear hlt hk
      go_wp2_with (first | (go_at_call 46; refine (refnorm_c _ _ hb _).mono ?_; rintro e w' ⟨rfl, rfl⟩))
      go_ret
      exact ⟨ret_int HJW.out.symm, below_alloc _ _⟩
end Go.Proofs.Ytmhifelkihcidaa
