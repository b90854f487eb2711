/- Which texts are names: both sides. -/
import Derived.Test.YtpcepfoebkmbgaaDoorLxHas
import Derived.Test.YtpcepfoebkmbgaaDoorLxCh
namespace Go.Proofs.YtpcepfoebkmbgaaDoor
open Go.RowKit
set_option linter.unusedVariables false
/-- the bytes of a string -/
def bs (s : ByteArray) : LX.Bs := s.data.toList
theorem bs_len (s : ByteArray) : (bs s).length = s.size := by cases s; simp [bs, ByteArray.size]
theorem bs_at (s : ByteArray) (k : Nat) (h : k < s.size) : (bs s)[k]'(by rw [bs_len]; exact h) = s[k] := rfl
theorem bs_toList (s : ByteArray) : s.toList = bs s := by rw [ByteArray.toList_eq]; rfl
theorem bs_head (s : ByteArray) (h : 0 < s.size) : (bs s).head? = some s[0] := by
  rw [List.head?_eq_getElem?, List.getElem?_eq_getElem (by rw [bs_len]; exact h)]; rfl
theorem bs_str (s : ByteArray) : s = ⟨(bs s).toArray⟩ := by cases s; rfl
set_option maxHeartbeats 800000 in
theorem isWord_c (s : ByteArray) (w : World) (hs : s.size ≤ 9223372036854775807) :
    Calls Tryd.prog 32 #[.string s] w fun e w' => e = .returned (.bool (LX.isWordB (bs s))) ∧ w = w' := by
  have hl := bs_len s
  by_cases h0 : s.size = 0
  · have he : s.toList = [] := by rw [bs_toList]; exact List.length_eq_zero_iff.1 (by omega)
    have hr : LX.isWordB (bs s) = false := by rw [← bs_toList, he]; rfl
    rw [hr]
    clear hl
    go_enter Tryd.func32, Tryd.ntmps32
    go_wp2
    go_ret
    exact ⟨rfl, rfl⟩
  have hne : (s.toList == []) = false := by
    rw [bs_toList]; cases hb : bs s with
    | nil => rw [hb] at hl; simp at hl; omega
    | cons c r => rfl
  have hne2 : s.toList.isEmpty = false := by
    rw [bs_toList]; cases hb : bs s with
    | nil => rw [hb] at hl; simp at hl; omega
    | cons c r => rfl
  by_cases h24 : 24 < s.size
  · have hr : LX.isWordB (bs s) = false := LX.isWordB_long (by omega)
    rw [hr]
    have h24' : (24 : Int) < (s.size : Int) := by omega
    clear hl h0
    go_enter Tryd.func32, Tryd.ntmps32
    go_wp2
    go_ret
    exact ⟨rfl, rfl⟩
  have h24' : ¬ (24 : Int) < (s.size : Int) := by omega
  have hpos : 0 < s.size := by omega
  have hhead := bs_head s hpos
  cases hc : LX.small s[0] with
  | false =>
    have hr : LX.isWordB (bs s) = false := LX.isWordB_head hhead hc
    rw [hr]
    clear hl h0 hhead
    go_enter Tryd.func32, Tryd.ntmps32
    go_wp2_with (first | (go_at_call 41; refine (beginsWord_c _ _).mono ?_; rintro e w' ⟨rfl, rfl⟩))
    go_ret
    exact ⟨rfl, rfl⟩
  | true =>
    have HL := Lib.hid hl
    have HH := Lib.hid hhead
    clear hl h0 hhead
    go_enter Tryd.func32, Tryd.ntmps32
    go_wp2_with (first | (go_at_call 41; refine (beginsWord_c _ _).mono ?_; rintro e w' ⟨rfl, rfl⟩))
    have HC := Lib.hid hc
    clear hc
    go_loop [19] (fun i => ∃ k : Nat, k ≤ s.size ∧ i = .int .i64 k ∧ Hid (((bs s).take k).all LX.part = true)) (fun i => s.size - (intOf i).toNat)
    case atStart => exact ⟨0, Nat.zero_le _, rfl, (show Hid _ from by show (List.take 0 _).all _ = true; simp)⟩
    case round =>
      obtain ⟨k, hk, rfl, hq⟩ := hrel
      by_cases hlt : k < s.size
      · cases hp : LX.part s[k] with
        | false =>
          have hr : Hid (LX.isWordB (bs s) = false) := LX.isWordB_not (k := k) (by rw [HL.out]; exact hlt) hp
          go_wp2_with (first | (go_at_call 54; refine (goesOnWord_c _ _).mono ?_; rintro e w' ⟨rfl, rfl⟩))
          go_ret
          exact ⟨by rw [hr.out]; rfl, rfl⟩
        | true =>
          have hq2 : Hid (((bs s).take (k + 1)).all LX.part = true) := LX.all_succ (by rw [HL.out]; exact hlt) hq.out hp
          go_wp2_with (first | (go_at_call 54; refine (goesOnWord_c _ _).mono ?_; rintro e w' ⟨rfl, rfl⟩))
          go_round
          case rel => exact ⟨k + 1, by omega, by go_num, hq2⟩
          case measure => simp [intOf]; omega
      · obtain rfl : k = s.size := by omega
        have hr : Hid (LX.isWordB (bs s) = true) := LX.isWordB_yes HH.out HC.out (by rw [HL.out]; omega) (by rw [HL.out]; exact hq.out)
        go_wp2
        go_ret
        exact ⟨by rw [hr.out]; rfl, rfl⟩
set_option maxHeartbeats 400000 in
theorem Index_yes (v : Value) (xs : List LX.Bs) (l : LX.Bs) (w : World) (h : RdS w v xs) (hin : l ∈ xs) :
    Calls Tryd.prog 55 #[v, .string ⟨l.toArray⟩] w fun e w' => (∃ k : Nat, e = .returned (.int .i64 k)) ∧ w = w' := by
  obtain ⟨a, cap, rfl, hl, h⟩ := h
  obtain ⟨L, hL⟩ : ∃ L, L = xs.length := ⟨_, rfl⟩
  rw [← hL] at h hl ⊢
  have HX : Hid (xs.length = L) := hL.symm
  clear hL
  rcases h with rfl | ⟨b, o, rfl, hc⟩
  · simp at hin
  have HI := Lib.hid hin
  clear hin
  go_enter Tryd.func55, Tryd.ntmps55
  go_wp2
  go_loop [8] (fun i => ∃ k : Nat, k ≤ L ∧ i = .int .i64 k ∧ Hid (l ∉ xs.take k)) (fun i => L - (intOf i).toNat)
  case atStart => exact ⟨0, Nat.zero_le _, rfl, (show Hid _ from by show l ∉ xs.take 0; simp)⟩
  case round =>
    obtain ⟨k, hk, rfl, hq⟩ := hrel
    by_cases hlt : k < L
    · have q1 := hc k hlt
      have k0 : (0 : Int) ≤ (k : Int) := by omega
      have k1 : (k : Int) < (L : Int) := by omega
      clear hc
      generalize hx : xs.getD k [] = x at *
      have EX := Lib.hid hx
      clear hx
      by_cases he : x = l
      · subst he
        go_wp2
        go_ret
        exact ⟨⟨k, rfl⟩, rfl⟩
      · have hn : (l == x) = false := by simpa using fun h => he h.symm
        have hq2 : Hid (l ∉ xs.take (k + 1)) := mem_succ (by rw [HX.out]; exact hlt) hq.out (by rw [EX.out]; exact he)
        have hn' := Lib.hid he
        clear he
        go_wp2
        go_round
        case rel => exact ⟨k + 1, by omega, by go_num, hq2⟩
        case measure => simp [intOf]; omega
    · exfalso
      have := hq.out
      rw [List.take_of_length_le (by rw [HX.out]; omega)] at this
      exact this HI.out
set_option maxHeartbeats 400000 in
theorem Index_no (v : Value) (xs : List LX.Bs) (l : LX.Bs) (w : World) (h : RdS w v xs) (hin : l ∉ xs) :
    Calls Tryd.prog 55 #[v, .string ⟨l.toArray⟩] w fun e w' => e = .returned (.int .i64 (-1)) ∧ w = w' := by
  obtain ⟨a, cap, rfl, hl, h⟩ := h
  obtain ⟨L, hL⟩ : ∃ L, L = xs.length := ⟨_, rfl⟩
  rw [← hL] at h hl ⊢
  have HX : Hid (xs.length = L) := hL.symm
  clear hL
  rcases h with rfl | ⟨b, o, rfl, hc⟩
  · have : L = 0 := HX.symm
    subst this
    go_enter Tryd.func55, Tryd.ntmps55
    go_wp2
    refine wp_loop_rounds 1 ?_
    rw [rounds_succ]
    go_wp2
    go_ret
    exact ⟨rfl, rfl⟩
  have HI := Lib.hid hin
  clear hin
  go_enter Tryd.func55, Tryd.ntmps55
  go_wp2
  go_loop [8] (fun i => ∃ k : Nat, k ≤ L ∧ i = .int .i64 k) (fun i => L - (intOf i).toNat)
  case atStart => exact ⟨0, Nat.zero_le _, rfl⟩
  case round =>
    obtain ⟨k, hk, rfl⟩ := hrel
    by_cases hlt : k < L
    · have q1 := hc k hlt
      have k0 : (0 : Int) ≤ (k : Int) := by omega
      have k1 : (k : Int) < (L : Int) := by omega
      clear hc
      have hn : (l == xs.getD k []) = false := by
        have : xs.getD k [] ∈ xs := by
          have : k < xs.length := by rw [HX.out]; exact hlt
          simp [this]
        simp only [beq_eq_false_iff_ne]
        rintro rfl
        exact HI.out this
      generalize xs.getD k [] = x at *
      go_wp2
      go_round
      case rel => exact ⟨k + 1, by omega, by go_num⟩
      case measure => simp [intOf]; omega
    · obtain rfl : k = L := by omega
      clear hc
      go_wp2
      go_ret
      exact ⟨rfl, rfl⟩
theorem Contains_yes (v : Value) (xs : List LX.Bs) (l : LX.Bs) (w : World) (h : RdS w v xs) (hin : l ∈ xs) :
    Calls Tryd.prog 33 #[v, .string ⟨l.toArray⟩] w fun e w' => e = .returned (.bool true) ∧ w = w' := by
  have HC := Lib.hid (fun W (hr : RdS W v xs) => Index_yes v xs l W hr hin)
  have HR := Lib.hid h
  clear h hin
  go_enter Tryd.func33, Tryd.ntmps33
  go_wp2_with (go_at_call 55; refine (HC.out _ HR.out).mono ?_; rintro e w' ⟨⟨k, rfl⟩, rfl⟩; have hk : (0 : Int) ≤ (k : Int) := by omega)
  go_ret
  exact ⟨rfl, rfl⟩
theorem Contains_no (v : Value) (xs : List LX.Bs) (l : LX.Bs) (w : World) (h : RdS w v xs) (hin : l ∉ xs) :
    Calls Tryd.prog 33 #[v, .string ⟨l.toArray⟩] w fun e w' => e = .returned (.bool false) ∧ w = w' := by
  have HC := Lib.hid (fun W (hr : RdS W v xs) => Index_no v xs l W hr hin)
  have HR := Lib.hid h
  clear h hin
  go_enter Tryd.func33, Tryd.ntmps33
  go_wp2_with (go_at_call 55; refine (HC.out _ HR.out).mono ?_; rintro e w' ⟨rfl, rfl⟩)
  go_ret
  exact ⟨rfl, rfl⟩
set_option maxHeartbeats 800000 in
theorem refIsName_c (s : ByteArray) (w : World) (hs : s.size ≤ 9223372036854775807) :
    Calls Tryd.prog 35 #[.string s] w fun e w' => e = .returned (.bool (LX.isNameB (bs s))) ∧ Below w.heap.size w w' := by
  have hl := bs_len s
  by_cases h0 : s.size = 0
  · have hr : LX.isNameB (bs s) = false := by
      have he : bs s = [] := List.length_eq_zero_iff.1 (by omega)
      rw [he]; rfl
    rw [hr]
    have h0' : ((s.size : Int) == 0) = true := by simpa using h0
    clear hl
    go_enter Tryd.func35, Tryd.ntmps35
    go_wp2
    go_ret
    exact ⟨rfl, Below.refl _ _⟩
  have h0' : ((s.size : Int) == 0) = false := by simpa using h0
  by_cases h24 : 24 < s.size
  · have hr : LX.isNameB (bs s) = false := by simp only [LX.isNameB, LX.isWordB_long (l := bs s) (by omega)]; rfl
    rw [hr]
    have h24' : (24 : Int) < (s.size : Int) := by omega
    clear hl h0
    go_enter Tryd.func35, Tryd.ntmps35
    go_wp2
    go_ret
    exact ⟨rfl, Below.refl _ _⟩
  have h24' : ¬ (24 : Int) < (s.size : Int) := by omega
  have hpos : 0 < s.size := by omega
  have hhead := bs_head s hpos
  cases hc : LX.small s[0] with
  | false =>
    have hr : LX.isNameB (bs s) = false := by simp only [LX.isNameB, LX.isWordB_head hhead hc]; rfl
    rw [hr]
    clear hl h0 hhead
    go_enter Tryd.func35, Tryd.ntmps35
    go_wp2_with (first | (go_at_call 57; refine (refSmall_c _ _).mono ?_; rintro e w' ⟨rfl, rfl⟩))
    go_ret
    exact ⟨rfl, Below.refl _ _⟩
  | true =>
    have HL := Lib.hid hl
    have HH := Lib.hid hhead
    clear hl h0 hhead
    have HC0 := Lib.hid (fun (v : Value) (W : World) (hv : RdS W v LX.keyL) => has_c v LX.keyL (bs s) W hv)
    rw [← bs_str s] at HC0
    by_cases h2 : bs s ∈ LX.keyL
    · have hr : LX.isNameB (bs s) = false := by simp only [LX.isNameB, h2]; simp
      rw [hr]
      have hd : decide (bs s ∈ LX.keyL) = true := by simpa using h2
      rw [hd] at HC0
      clear hr hd h2
      go_enter Tryd.func35, Tryd.ntmps35
      go_wp2_with (first | (go_at_call 57; refine (refSmall_c _ _).mono ?_; rintro e w' ⟨rfl, rfl⟩) | (go_at_call 37; refine (refKeys_c _).mono ?_; rintro e w1 ⟨v, rfl, hr1, hb1⟩; have HR := Lib.hid hr1; clear hr1) | (go_at_call 36; refine (HC0.out _ _ HR.out).mono ?_; rintro e w' ⟨rfl, rfl⟩))
      go_ret
      exact ⟨rfl, hb1⟩
    · have hd : decide (bs s ∈ LX.keyL) = false := by simpa using h2
      rw [hd] at HC0
      have H2 := Lib.hid h2
      clear hd h2
      go_enter Tryd.func35, Tryd.ntmps35
      go_wp2_with (first | (go_at_call 57; refine (refSmall_c _ _).mono ?_; rintro e w' ⟨rfl, rfl⟩) | (go_at_call 37; refine (refKeys_c _).mono ?_; rintro e w1 ⟨v, rfl, hr1, hb1⟩; have HR := Lib.hid hr1; clear hr1) | (go_at_call 36; refine (HC0.out _ _ HR.out).mono ?_; rintro e w' ⟨rfl, rfl⟩))
      have HC := Lib.hid hc
      clear hc
      go_loop [3] (fun i => ∃ k : Nat, k ≤ s.size ∧ i = .int .i64 k ∧ Hid (((bs s).take k).all LX.part = true)) (fun i => s.size - (intOf i).toNat)
      case atStart => exact ⟨0, Nat.zero_le _, rfl, (show Hid _ from by show (List.take 0 _).all _ = true; simp)⟩
      case round =>
        obtain ⟨k, hk, rfl, hq⟩ := hrel
        by_cases hlt : k < s.size
        · cases hp : LX.part s[k] with
          | false =>
            have hr : Hid (LX.isNameB (bs s) = false) := by
              show _ = _
              simp only [LX.isNameB, LX.isWordB_not (l := bs s) (k := k) (by rw [HL.out]; exact hlt) hp]; rfl
            go_wp2_with (first | (go_at_call 58; refine (refPart_c _ _).mono ?_; rintro e w' ⟨rfl, rfl⟩))
            go_ret
            exact ⟨by rw [hr.out]; rfl, hb1⟩
          | true =>
            have hq2 : Hid (((bs s).take (k + 1)).all LX.part = true) := LX.all_succ (by rw [HL.out]; exact hlt) hq.out hp
            go_wp2_with (first | (go_at_call 58; refine (refPart_c _ _).mono ?_; rintro e w' ⟨rfl, rfl⟩))
            go_round
            case rel => exact ⟨k + 1, by omega, by go_num, hq2⟩
            case measure => simp [intOf]; omega
        · obtain rfl : k = s.size := by omega
          have hr : Hid (LX.isNameB (bs s) = true) := by
            show _ = _
            have h2 := H2.out
            simp only [LX.isNameB, LX.isWordB_yes HH.out HC.out (l := bs s) (by rw [HL.out]; omega) (by rw [HL.out]; exact hq.out), h2]; rfl
          go_wp2
          go_ret
          exact ⟨by rw [hr.out]; rfl, hb1⟩
end Go.Proofs.YtpcepfoebkmbgaaDoor
