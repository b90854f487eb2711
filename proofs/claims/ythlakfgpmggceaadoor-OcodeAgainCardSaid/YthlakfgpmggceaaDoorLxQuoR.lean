/- The document's answer: how a string is quoted. -/
import Derived.Test.YthlakfgpmggceaaDoorLxWrM
import Derived.Test.YthlakfgpmggceaaDoorLxAt
namespace Go.Proofs.YthlakfgpmggceaaDoor
open Go.RowKit
set_option linter.unusedVariables false
namespace LX
/-- a quoted string, or the error -/
def quoteR (l : Bs) : Bs × Nat := if l.all okq = false then ([], 3) else if 100 < l.length then ([], 2) else (quote l, 0)
theorem quoteR_bad {l : Bs} {k : Nat} (hk : k < l.length) (h : okq l[k] = false) : quoteR l = ([], 3) := by
  have : l.all okq = false := by rw [List.all_eq_false]; exact ⟨_, List.getElem_mem hk, by simp [h]⟩
  unfold quoteR; rw [if_pos this]
theorem quoteR_long {l : Bs} (h : l.all okq = true) (hl : 100 < l.length) : quoteR l = ([], 2) := by
  unfold quoteR; rw [if_neg (by simp [h]), if_pos hl]
theorem quoteR_good {l : Bs} (h : l.all okq = true) (hl : ¬ 100 < l.length) : quoteR l = (quote l, 0) := by
  unfold quoteR; rw [if_neg (by simp [h]), if_neg hl]
theorem qbody_succ {l : Bs} {k : Nat} (hk : k < l.length) : qbody (l.take (k + 1)) = qbody (l.take k) ++ qc l[k] := by
  unfold qbody; rw [List.take_succ_eq_append_getElem hk, List.flatMap_append]; simp
theorem qbody_take (l : Bs) (k : Nat) : (qbody (l.take k)).length ≤ 2 * l.length := by
  have h1 := (qbody_len (l.take k)).2
  have h2 := List.length_take_le k l
  have h3 : (l.take k).length ≤ l.length := by simp [List.length_take]; omega
  omega
end LX
theorem bs_cat2 (a b : LX.Bs) : (⟨a.toArray⟩ : ByteArray) ++ ⟨b.toArray⟩ = ⟨(a ++ b).toArray⟩ := by rw [ByteArray.mk_append_mk]
theorem ext_one (s : ByteArray) (k : Nat) (h : k < s.size) : s.extract k (k + 1) = ⟨#[s[k]]⟩ := by
  apply ByteArray.ext
  rw [ByteArray.data_extract]
  apply Array.ext
  · simp; omega
  · intro i h1 h2
    have : i = 0 := by simp at h2; omega
    subst this
    simp; rfl
set_option maxHeartbeats 1000000 in
theorem refQuote_c (s : ByteArray) (w : World) (hs : s.size ≤ 140737488351232) :
    Calls Tryd.prog 57 #[.string s] w fun e w' => e = .returned (.tuple #[.string ⟨(LX.quoteR (bs s)).1.toArray⟩, .int .i64 ((LX.quoteR (bs s)).2 : Int)]) ∧ w = w' := by
  have hl := bs_len s
  have HL := Lib.hid hl
  clear hl
  go_enter Tryd.func57, Tryd.ntmps57
  go_wp2
  go_loop [4, 5] (fun o i => ∃ k : Nat, k ≤ s.size ∧ i = .int .i64 k ∧ o = .string ⟨(34 :: LX.qbody ((bs s).take k)).toArray⟩ ∧ Hid (((bs s).take k).all LX.okq = true)) (fun _ i => s.size - (intOf i).toNat)
  case atStart => exact ⟨0, Nat.zero_le _, rfl, by simp [LX.qbody], (show Hid _ from by show (List.take 0 _).all _ = true; simp)⟩
  case round =>
    obtain ⟨k, hk, rfl, rfl, hq⟩ := hrel
    by_cases hlt : k < s.size
    · have hkl : k < (bs s).length := by rw [HL.out]; exact hlt
      have hsuc := LX.qbody_succ hkl
      have hall : LX.okq s[k] = true → Hid (((bs s).take (k + 1)).all LX.okq = true) := fun h => LX.all_succ hkl hq.out h
      have hbad : LX.okq s[k] = false → Hid (LX.quoteR (bs s) = ([], 3)) := fun h => LX.quoteR_bad hkl h
      have hlen := LX.qbody_take (bs s) k
      rw [HL.out] at hlen
      obtain ⟨B, hB⟩ : ∃ B, LX.qbody ((bs s).take k) = B := ⟨_, rfl⟩
      rw [hB] at hsuc hlen ⊢
      have HB := Lib.hid hsuc
      clear hsuc hB
      have ub := u8_bd s[k]
      have hrel2 : ∀ x, LX.qc s[k] = x → LX.okq s[k] = true → Hid (LX.qbody ((bs s).take (k + 1)) = B ++ x ∧ ((bs s).take (k + 1)).all LX.okq = true) := fun x hx ho => ⟨by rw [HB.out]; exact congrArg (B ++ ·) hx, (hall ho).out⟩
      have HR := Lib.hid hrel2
      have HX := Lib.hid hbad
      clear hall hrel2 hbad HB hq
      have k0 : (0 : Int) ≤ (k : Int) := by omega
      by_cases h10 : s[k].toNat = 10
      · have hr := HR.out [42, 110] (by unfold LX.qc; rw [if_pos h10]) (by simp [LX.okq, h10])
        have f1 := eqT (c := s[k]) 10 (by omega)
        clear h10 HR HX
        go_wp2
        go_round
        case rel => exact ⟨k + 1, by omega, by go_num, by rw [hr.out.1]; exact congrArg Value.string (bs_cat2 _ _), hr.out.2⟩
        case measure => simp [intOf]; omega
      have f1 := eqF (c := s[k]) 10 (by omega)
      by_cases h9 : s[k].toNat = 9
      · have hr := HR.out [42, 116] (by unfold LX.qc; rw [if_neg h10, if_pos h9]) (by simp [LX.okq, h9])
        have f2 := eqT (c := s[k]) 9 (by omega)
        clear h10 h9 HR HX
        go_wp2
        go_round
        case rel => exact ⟨k + 1, by omega, by go_num, by rw [hr.out.1]; exact congrArg Value.string (bs_cat2 _ _), hr.out.2⟩
        case measure => simp [intOf]; omega
      have f2 := eqF (c := s[k]) 9 (by omega)
      by_cases h42 : s[k].toNat = 42 ∨ s[k].toNat = 34
      · have hr := HR.out [42, s[k]] (by unfold LX.qc; rw [if_neg h10, if_neg h9, if_pos h42]) (by simp [LX.okq, LX.plain]; omega)
        have hs1 := ext_one s k hlt
        have f3 : (((s[k].toNat : Int) == 42) = true) ∨ (((s[k].toNat : Int) == 42) = false ∧ ((s[k].toNat : Int) == 34) = true) := by
          by_cases h : s[k].toNat = 42
          · exact .inl (eqT 42 (by omega))
          · exact .inr ⟨eqF 42 (by omega), eqT 34 (by omega)⟩
        clear h10 h9 h42 HR HX
        rcases f3 with f3 | ⟨f3, f4⟩
        all_goals
          go_wp2
          all_goals first
            | (exfalso; simp_all; done)
            | (exfalso; simp_all; omega)
            | (go_round
               case rel => exact ⟨k + 1, by omega, by go_num, by rw [hr.out.1]; exact congrArg Value.string ((congrArg (_ ++ ·) (bs_cat2 [42] [s[k]])).trans (bs_cat2 _ _)), hr.out.2⟩
               case measure => simp [intOf]; omega)
      have f3 := eqF (c := s[k]) 42 (by omega)
      have f4 := eqF (c := s[k]) 34 (by omega)
      by_cases hp : LX.plain s[k] = true
      · have hr := HR.out [s[k]] (by unfold LX.qc; rw [if_neg h10, if_neg h9, if_neg h42]) (by simp [LX.okq, hp])
        have hs1 := ext_one s k hlt
        have hp2 : (32 : Int) ≤ (s[k].toNat : Int) ∧ (s[k].toNat : Int) ≤ 126 := by simp [LX.plain] at hp; omega
        clear h10 h9 h42 hp HR HX
        go_wp2
        all_goals first
          | (exfalso; simp_all; done)
          | (exfalso; simp_all; omega)
          | (go_round
             case rel => exact ⟨k + 1, by omega, by go_num, by rw [hr.out.1]; exact congrArg Value.string (bs_cat2 _ _), hr.out.2⟩
             case measure => simp [intOf]; omega)
      · have hr := HX.out (by simp [LX.okq, h10, h9]; simpa using hp)
        have hp2 : (s[k].toNat : Int) < 32 ∨ (126 : Int) < (s[k].toNat : Int) := by simp [LX.plain] at hp; omega
        clear h10 h9 h42 hp HR HX
        go_wp2
        all_goals first
          | (exfalso; simp_all; done)
          | (exfalso; simp_all; omega)
          | (go_ret2; exact ⟨by rw [hr.out]; rfl, rfl⟩)
    · obtain rfl : k = s.size := by omega
      have hall : Hid ((bs s).all LX.okq = true) := by have h := hq.out; rw [← HL.out, List.take_length] at h; exact h
      have hqb : Hid (LX.qbody ((bs s).take s.size) = LX.qbody (bs s)) := by show _ = _; rw [← HL.out, List.take_length]
      by_cases h100 : 100 < s.size
      · have hr : Hid (LX.quoteR (bs s) = ([], 2)) := LX.quoteR_long hall.out (by rw [HL.out]; exact h100)
        have g1 : (100 : Int) < (s.size : Int) := by omega
        clear h100
        go_wp2
        go_ret2
        exact ⟨by rw [hr.out]; rfl, rfl⟩
      · have hr : Hid (LX.quoteR (bs s) = (LX.quote (bs s), 0)) := LX.quoteR_good hall.out (by rw [HL.out]; exact h100)
        have g1 : ¬ (100 : Int) < (s.size : Int) := by omega
        have hlen := LX.qbody_take (bs s) s.size
        rw [HL.out] at hlen
        obtain ⟨B, hB⟩ : ∃ B, LX.qbody ((bs s).take s.size) = B := ⟨_, rfl⟩
        have HB := Lib.hid (hB.symm.trans hqb.out)
        rw [hB] at hlen ⊢
        clear h100 hB
        go_wp2
        go_ret2
        exact ⟨by rw [hr.out]; unfold LX.quote; rw [← HB.out]; exact congrArg (fun x => Ending.returned (.tuple #[.string x, .int .i64 0])) (bs_cat2 _ _), rfl⟩
end Go.Proofs.YthlakfgpmggceaaDoor
