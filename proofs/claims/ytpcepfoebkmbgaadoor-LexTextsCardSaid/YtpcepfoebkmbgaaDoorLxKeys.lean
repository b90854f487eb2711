/- The set of keys: a map that the call makes; asking it. -/
import Derived.Test.YtpcepfoebkmbgaaDoorLxName
import Derived.Maps.OwnSet
import Derived.Maps.Views
import Derived.OwnWalk
namespace Go.Proofs.YtpcepfoebkmbgaaDoor
open Go.RowKit Go.Maps Go.WideMaps
set_option linter.unusedVariables false
/-- a set of texts, as the map reads -/
def keyD (ks : List LX.Bs) : DataW Unit := ks.foldl (fun D k => D.put (.string k) (.lit (.bool true))) (.map [])
theorem keyD_snoc (ks : List LX.Bs) (k : LX.Bs) : keyD (ks ++ [k]) = (keyD ks).put (.string k) (.lit (.bool true)) := by simp [keyD]
theorem keyD_map (n : Nat) : ∀ ks : List LX.Bs, ks.length ≤ n → IsMap (keyD ks) := by
  induction n with
  | zero => intro ks h; have : ks = [] := List.length_eq_zero_iff.1 (by omega); subst this; exact isMap_empty
  | succ n ih =>
    intro ks h
    rcases List.eq_nil_or_concat ks with rfl | ⟨l, a, rfl⟩
    · exact isMap_empty
    · rw [List.concat_eq_append] at h ⊢
      rw [keyD_snoc]
      exact (ih l (by simp at h; omega)).put _ _
theorem keyD_at (n : Nat) : ∀ (ks : List LX.Bs) (l : LX.Bs), ks.length ≤ n → (keyD ks).atKey (.string l) (.lit (.bool false)) = .lit (.bool (decide (l ∈ ks))) := by
  induction n with
  | zero => intro ks l h; have : ks = [] := List.length_eq_zero_iff.1 (by omega); subst this; rfl
  | succ n ih =>
    intro ks l h
    rcases List.eq_nil_or_concat ks with rfl | ⟨ks, a, rfl⟩
    · rfl
    · rw [List.concat_eq_append] at h ⊢
      rw [keyD_snoc]
      by_cases e : l = a
      · subst e
        rw [atKey_put_same (keyD_map _ ks (Nat.le_refl _)) (show WideAt.IsKeyLit (.string l) from trivial)]
        simp
      · rw [atKey_put_other (by simpa using e), ih ks l (by simp at h; omega)]
        simp [e]
theorem kLaw : Keyed Tryd.prog 9 := string_keyed Tryd.underlying9
theorem zeroB (w : World) : (zeroValue 4).run Tryd.prog w = .ok (.bool false) w := by kernel_rfl
/-- a map that is asked: the keys' set at block b -/
def Keys (w : World) (b : Nat) : Prop := w.ownsMap Tryd.prog 9 (plainElem (H := Unit) Tryd.prog 4) b 43 (keyD LX.keyL)
theorem Keys.look {w : World} {b : Nat} (h : Keys w b) (s : ByteArray) (hs : s.size ≤ maxLen) :
    (Instr.lookup 43 (.map (some b)) (.string s) false).run Tryd.prog w = .ok (.bool (decide (bs s ∈ LX.keyL))) w := by
  obtain ⟨v, ps, hrun, hv⟩ := h.lookup kLaw Tryd.underlying43 (zeroB w) (zd := .lit (.bool false)) (zp := []) (plainElem_bool Tryd.underlying4 false) (keyOf_string_mk Tryd.underlying9 hs)
  rw [hrun]
  have e := keyD_at 43 LX.keyL s.data.toList (by decide)
  rw [e] at hv
  unfold plainElem at hv
  rw [Tryd.underlying4] at hv
  cases v <;> simp at hv
  rw [hv.1]; rfl
theorem Keys.kept {w w' : World} {b : Nat} {row : Option Nat} (h : Keys w b) (hg : w.grownBy w' row) (hne : some b ≠ row) : Keys w' b := World.ownsMap.kept h hg hne
set_option maxHeartbeats 1000000 in
theorem keywords_c (w : World) : Calls Tryd.prog 20 #[] w fun e w' => ∃ b : Nat, e = .returned (.map (some b)) ∧ Keys w' b ∧ w.heap.size ≤ b ∧ Below w.heap.size w w' := by
  have hmm := @run_makeMap Tryd.prog
  go_enter Tryd.func20, Tryd.ntmps20
  go_wp2_with (go_at_call 31; refine (Keys_c _).mono ?_; rintro e w1 ⟨v, rfl, hr1, hb1⟩; obtain ⟨va, vc, rfl, hvl, hvc⟩ := hr1; rw [show LX.keyL.length = 43 from rfl] at *; obtain ⟨vb, vo, rfl, hcell⟩ := hvc.resolve_left (by decide); have hm1 := (World.ownsMap_made w Tryd.prog 9 (plainElem (H := Unit) Tryd.prog 4)).kept (row := none) (w' := w1) ⟨hb1.os, hb1.tape, hb1.output, hb1.size, fun i hi _ => hb1.block i hi⟩ (by simp); have hbw1 := below_then (below_alloc w (.map #[] 0)) hb1; clear hvl hmm)
  have hne : vb ≠ w.heap.size := by
    rintro rfl
    obtain ⟨es, clock, hbl, _⟩ := hm1
    have h0 := hcell 0 (by decide)
    simp [World.cell?, hbl] at h0
  have HC := Lib.hid hcell
  clear hcell
  go_loopw [7] (fun i wr => ∃ k : Nat, k ≤ 43 ∧ i = .int .i64 k ∧ wr.ownsMap Tryd.prog 9 (plainElem (H := Unit) Tryd.prog 4) w.heap.size k (keyD (LX.keyL.take k)) ∧ (∀ j, j < 43 → wr.cell? ⟨vb, vo + j, none⟩ = some (.string ⟨(LX.keyL.getD j []).toArray⟩)) ∧ Below w.heap.size w wr) (fun i _ => 43 - (intOf i).toNat)
  case atStart => exact ⟨0, by omega, rfl, hm1, HC.out, hbw1⟩
  case round =>
    obtain ⟨k, hk, rfl, hown, hcl, hb⟩ := hrel
    by_cases hlt : k < 43
    · have q1 := hcl k hlt
      have k0 : (0 : Int) ≤ (k : Int) := by omega
      have k1 : (k : Int) < 43 := by omega
      have hlen : ∀ x ∈ LX.keyL, x.length ≤ 100 := by decide
      have hmem : LX.keyL.getD k [] ∈ LX.keyL := by
        have : k < LX.keyL.length := hlt
        simp [this]
      have hxl := hlen _ hmem
      have hts : LX.keyL.take (k + 1) = LX.keyL.take k ++ [LX.keyL.getD k []] := by
        have : k < LX.keyL.length := hlt
        rw [List.take_succ_eq_append_getElem this]; simp [this]
      have HTS := Lib.hid hts
      have HCL := Lib.hid hcl
      clear hlen hmem hts hcl
      generalize hx : LX.keyL.getD k [] = x at *
      have hkey := keyOf_string_mk (P := Tryd.prog) Tryd.underlying9 (s := ⟨x.toArray⟩) (by unfold maxLen; simp [ByteArray.size]; omega)
      have HKEY := Lib.hid hkey
      clear hx hkey
      go_wp2_with (at_mapUpdate; refine wpList_mapUpdate_own _ (by rfl) _ _ _ 43 (by rfl) 9 4 kLaw Tryd.underlying43 _ w.heap.size k _ (by rfl) hown (by unfold maxLen; omega) _ _ _ (by rfl) (by rfl) HKEY.out _ [] (plainElem_bool Tryd.underlying4 true) ?_; intro w2 hown2 hgrow2)
      go_roundw
      case rel => exact ⟨k + 1, by omega, by go_num, by rw [HTS.out, keyD_snoc]; exact hown2, fun j hj => hgrow2.cell (HCL.out j hj) (by simpa using hne), hb.grown hgrow2 hb.size (by simp)⟩
      case measure => simp [intOf]; omega
    · obtain rfl : k = 43 := by omega
      have hown' : Keys wr w.heap.size := by
        have := hown
        rw [List.take_of_length_le (show LX.keyL.length ≤ 43 from by decide)] at this
        exact this
      clear hcl hown
      go_wp2
      go_ret
      exact ⟨_, rfl, hown', Nat.le_refl _, hb⟩
end Go.Proofs.YtpcepfoebkmbgaaDoor
