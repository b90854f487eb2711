/- Tests on one byte: each function of both sides by its contract. -/
import Derived.Test.YtpcepfoebkmbgaaDoorLxRd
namespace Go.Proofs.YtpcepfoebkmbgaaDoor
open Go.RowKit
set_option linter.unusedVariables false

theorem u8_bd (c : UInt8) : (0 : Int) ≤ (c.toNat : Int) ∧ (c.toNat : Int) ≤ 255 := by have := c.toNat_lt; omega
theorem ret_bool {a b : Bool} (h : a = b) : Ending.returned (.bool a) = .returned (.bool b) := by rw [h]
theorem ret_int {k : IntKind} {a b : Int} (h : a = b) : Ending.returned (.int k a) = .returned (.int k b) := by rw [h]
set_option maxHeartbeats 400000 in
theorem beginsWord_c (c : UInt8) (w : World) : Calls Tryd.prog 41 #[.int .u8 (c.toNat : Int)] w fun e w' => e = .returned (.bool (LX.small c)) ∧ w = w' := by
  have hb := u8_bd c
  have hs : LX.small c = (decide ((97 : Int) ≤ (c.toNat : Int)) && decide ((c.toNat : Int) ≤ 122)) := by
    rw [Bool.eq_iff_iff]; simp [LX.small]; omega
  rw [hs]
  clear hs
  generalize (c.toNat : Int) = m at *
  obtain ⟨b1, b2⟩ := hb
  by_cases h1 : 97 ≤ m
  · by_cases h2 : m ≤ 122
    · have hh : Hid ((decide (97 ≤ m) && decide (m ≤ 122)) = true) := by show _ = true; simp [h1, h2]
      go_enter Tryd.func41, Tryd.ntmps41
      go_wp2
      go_ret
      exact ⟨ret_bool hh.out.symm, rfl⟩
    · have hh : Hid ((decide (97 ≤ m) && decide (m ≤ 122)) = false) := by show _ = false; simp [h1, h2]
      have h2' : ¬ m ≤ 122 := h2
      go_enter Tryd.func41, Tryd.ntmps41
      go_wp2
      go_ret
      exact ⟨ret_bool (by simp; omega), rfl⟩
  · have hh : Hid ((decide (97 ≤ m) && decide (m ≤ 122)) = false) := by show _ = false; simp [h1]
    go_enter Tryd.func41, Tryd.ntmps41
    go_wp2
    go_ret
    exact ⟨ret_bool hh.out.symm, rfl⟩
set_option maxHeartbeats 400000 in
theorem isDigit_c (c : UInt8) (w : World) : Calls Tryd.prog 43 #[.int .u8 (c.toNat : Int)] w fun e w' => e = .returned (.bool (LX.isDig c)) ∧ w = w' := by
  have hb := u8_bd c
  have hs : LX.isDig c = (decide ((48 : Int) ≤ (c.toNat : Int)) && decide ((c.toNat : Int) ≤ 57)) := by
    rw [Bool.eq_iff_iff]; simp [LX.isDig]; omega
  rw [hs]
  clear hs
  generalize (c.toNat : Int) = m at *
  obtain ⟨b1, b2⟩ := hb
  by_cases h1 : 48 ≤ m
  · by_cases h2 : m ≤ 57
    · have hh : Hid ((decide (48 ≤ m) && decide (m ≤ 57)) = true) := by show _ = true; simp [h1, h2]
      go_enter Tryd.func43, Tryd.ntmps43
      go_wp2
      go_ret
      exact ⟨ret_bool hh.out.symm, rfl⟩
    · have hh : Hid ((decide (48 ≤ m) && decide (m ≤ 57)) = false) := by show _ = false; simp [h1, h2]
      have h2' : ¬ m ≤ 57 := h2
      go_enter Tryd.func43, Tryd.ntmps43
      go_wp2
      go_ret
      exact ⟨ret_bool (by simp; omega), rfl⟩
  · have hh : Hid ((decide (48 ≤ m) && decide (m ≤ 57)) = false) := by show _ = false; simp [h1]
    go_enter Tryd.func43, Tryd.ntmps43
    go_wp2
    go_ret
    exact ⟨ret_bool hh.out.symm, rfl⟩
set_option maxHeartbeats 400000 in
theorem isPlain_c (c : UInt8) (w : World) : Calls Tryd.prog 16 #[.int .u8 (c.toNat : Int)] w fun e w' => e = .returned (.bool (LX.plain c)) ∧ w = w' := by
  have hb := u8_bd c
  have hs : LX.plain c = (decide ((32 : Int) ≤ (c.toNat : Int)) && decide ((c.toNat : Int) ≤ 126)) := by
    rw [Bool.eq_iff_iff]; simp [LX.plain]; omega
  rw [hs]
  clear hs
  generalize (c.toNat : Int) = m at *
  obtain ⟨b1, b2⟩ := hb
  by_cases h1 : 32 ≤ m
  · by_cases h2 : m ≤ 126
    · have hh : Hid ((decide (32 ≤ m) && decide (m ≤ 126)) = true) := by show _ = true; simp [h1, h2]
      go_enter Tryd.func16, Tryd.ntmps16
      go_wp2
      go_ret
      exact ⟨ret_bool hh.out.symm, rfl⟩
    · have hh : Hid ((decide (32 ≤ m) && decide (m ≤ 126)) = false) := by show _ = false; simp [h1, h2]
      have h2' : ¬ m ≤ 126 := h2
      go_enter Tryd.func16, Tryd.ntmps16
      go_wp2
      go_ret
      exact ⟨ret_bool (by simp; omega), rfl⟩
  · have hh : Hid ((decide (32 ≤ m) && decide (m ≤ 126)) = false) := by show _ = false; simp [h1]
    go_enter Tryd.func16, Tryd.ntmps16
    go_wp2
    go_ret
    exact ⟨ret_bool hh.out.symm, rfl⟩
set_option maxHeartbeats 400000 in
theorem refSmall_c (c : UInt8) (w : World) : Calls Tryd.prog 57 #[.int .u8 (c.toNat : Int)] w fun e w' => e = .returned (.bool (LX.small c)) ∧ w = w' := by
  have hb := u8_bd c
  have hs : LX.small c = (decide ((97 : Int) ≤ (c.toNat : Int)) && decide ((c.toNat : Int) ≤ 122)) := by
    rw [Bool.eq_iff_iff]; simp [LX.small]; omega
  rw [hs]
  clear hs
  generalize (c.toNat : Int) = m at *
  obtain ⟨b1, b2⟩ := hb
  by_cases h1 : 97 ≤ m
  · by_cases h2 : m ≤ 122
    · have hh : Hid ((decide (97 ≤ m) && decide (m ≤ 122)) = true) := by show _ = true; simp [h1, h2]
      go_enter Tryd.func57, Tryd.ntmps57
      go_wp2
      go_ret
      exact ⟨ret_bool hh.out.symm, rfl⟩
    · have hh : Hid ((decide (97 ≤ m) && decide (m ≤ 122)) = false) := by show _ = false; simp [h1, h2]
      have h2' : ¬ m ≤ 122 := h2
      go_enter Tryd.func57, Tryd.ntmps57
      go_wp2
      go_ret
      exact ⟨ret_bool (by simp; omega), rfl⟩
  · have hh : Hid ((decide (97 ≤ m) && decide (m ≤ 122)) = false) := by show _ = false; simp [h1]
    go_enter Tryd.func57, Tryd.ntmps57
    go_wp2
    go_ret
    exact ⟨ret_bool hh.out.symm, rfl⟩
set_option maxHeartbeats 400000 in
theorem refDigit_c (c : UInt8) (w : World) : Calls Tryd.prog 68 #[.int .u8 (c.toNat : Int)] w fun e w' => e = .returned (.bool (LX.isDig c)) ∧ w = w' := by
  have hb := u8_bd c
  have hs : LX.isDig c = (decide ((48 : Int) ≤ (c.toNat : Int)) && decide ((c.toNat : Int) ≤ 57)) := by
    rw [Bool.eq_iff_iff]; simp [LX.isDig]; omega
  rw [hs]
  clear hs
  generalize (c.toNat : Int) = m at *
  obtain ⟨b1, b2⟩ := hb
  by_cases h1 : 48 ≤ m
  · by_cases h2 : m ≤ 57
    · have hh : Hid ((decide (48 ≤ m) && decide (m ≤ 57)) = true) := by show _ = true; simp [h1, h2]
      go_enter Tryd.func68, Tryd.ntmps68
      go_wp2
      go_ret
      exact ⟨ret_bool hh.out.symm, rfl⟩
    · have hh : Hid ((decide (48 ≤ m) && decide (m ≤ 57)) = false) := by show _ = false; simp [h1, h2]
      have h2' : ¬ m ≤ 57 := h2
      go_enter Tryd.func68, Tryd.ntmps68
      go_wp2
      go_ret
      exact ⟨ret_bool (by simp; omega), rfl⟩
  · have hh : Hid ((decide (48 ≤ m) && decide (m ≤ 57)) = false) := by show _ = false; simp [h1]
    go_enter Tryd.func68, Tryd.ntmps68
    go_wp2
    go_ret
    exact ⟨ret_bool hh.out.symm, rfl⟩
set_option maxHeartbeats 400000 in
theorem goesOnWord_c (c : UInt8) (w : World) : Calls Tryd.prog 54 #[.int .u8 (c.toNat : Int)] w fun e w' => e = .returned (.bool (LX.part c)) ∧ w = w' := by
  have hb := u8_bd c
  obtain ⟨b1, b2⟩ := hb
  have hs : LX.part c = (LX.small c || LX.isDig c || decide ((c.toNat : Int) = 95)) := by
    unfold LX.part; congr 1; rw [decide_eq_decide]; omega
  have HS := Lib.hid hs
  clear hs
  cases h1 : LX.small c
  · cases h2 : LX.isDig c
    · by_cases h3 : (c.toNat : Int) = 95
      · have hh : Hid (LX.part c = true) := by show _ = true; rw [HS.out]; simp [h3]
        have h3' : ((c.toNat : Int) == 95) = true := by simpa using h3
        clear h3
        go_enter Tryd.func54, Tryd.ntmps54
        go_wp2_with (first | (go_at_call 41; refine (beginsWord_c c _).mono ?_; rintro e w' ⟨rfl, rfl⟩) | (go_at_call 43; refine (isDigit_c c _).mono ?_; rintro e w' ⟨rfl, rfl⟩))
        go_ret
        exact ⟨ret_bool hh.out.symm, rfl⟩
      · have hh : Hid (LX.part c = false) := by show _ = false; rw [HS.out]; simp [h1, h2, h3]
        have h3' : ((c.toNat : Int) == 95) = false := by simpa using h3
        clear h3
        go_enter Tryd.func54, Tryd.ntmps54
        go_wp2_with (first | (go_at_call 41; refine (beginsWord_c c _).mono ?_; rintro e w' ⟨rfl, rfl⟩) | (go_at_call 43; refine (isDigit_c c _).mono ?_; rintro e w' ⟨rfl, rfl⟩))
        go_ret
        exact ⟨ret_bool hh.out.symm, rfl⟩
    · have hh : Hid (LX.part c = true) := by show _ = true; rw [HS.out]; simp [h2]
      go_enter Tryd.func54, Tryd.ntmps54
      go_wp2_with (first | (go_at_call 41; refine (beginsWord_c c _).mono ?_; rintro e w' ⟨rfl, rfl⟩) | (go_at_call 43; refine (isDigit_c c _).mono ?_; rintro e w' ⟨rfl, rfl⟩))
      go_ret
      exact ⟨ret_bool hh.out.symm, rfl⟩
  · have hh : Hid (LX.part c = true) := by show _ = true; rw [HS.out]; simp [h1]
    go_enter Tryd.func54, Tryd.ntmps54
    go_wp2_with (first | (go_at_call 41; refine (beginsWord_c c _).mono ?_; rintro e w' ⟨rfl, rfl⟩) | (go_at_call 43; refine (isDigit_c c _).mono ?_; rintro e w' ⟨rfl, rfl⟩))
    go_ret
    exact ⟨ret_bool hh.out.symm, rfl⟩
set_option maxHeartbeats 400000 in
theorem refPart_c (c : UInt8) (w : World) : Calls Tryd.prog 58 #[.int .u8 (c.toNat : Int)] w fun e w' => e = .returned (.bool (LX.part c)) ∧ w = w' := by
  have hb := u8_bd c
  obtain ⟨b1, b2⟩ := hb
  have hs : LX.part c = (LX.small c || LX.isDig c || decide ((c.toNat : Int) = 95)) := by
    unfold LX.part; congr 1; rw [decide_eq_decide]; omega
  have HS := Lib.hid hs
  clear hs
  cases h1 : LX.small c
  · cases h2 : LX.isDig c
    · by_cases h3 : (c.toNat : Int) = 95
      · have hh : Hid (LX.part c = true) := by show _ = true; rw [HS.out]; simp [h3]
        have h3' : ((c.toNat : Int) == 95) = true := by simpa using h3
        clear h3
        go_enter Tryd.func58, Tryd.ntmps58
        go_wp2_with (first | (go_at_call 57; refine (refSmall_c c _).mono ?_; rintro e w' ⟨rfl, rfl⟩) | (go_at_call 68; refine (refDigit_c c _).mono ?_; rintro e w' ⟨rfl, rfl⟩))
        go_ret
        exact ⟨ret_bool hh.out.symm, rfl⟩
      · have hh : Hid (LX.part c = false) := by show _ = false; rw [HS.out]; simp [h1, h2, h3]
        have h3' : ((c.toNat : Int) == 95) = false := by simpa using h3
        clear h3
        go_enter Tryd.func58, Tryd.ntmps58
        go_wp2_with (first | (go_at_call 57; refine (refSmall_c c _).mono ?_; rintro e w' ⟨rfl, rfl⟩) | (go_at_call 68; refine (refDigit_c c _).mono ?_; rintro e w' ⟨rfl, rfl⟩))
        go_ret
        exact ⟨ret_bool hh.out.symm, rfl⟩
    · have hh : Hid (LX.part c = true) := by show _ = true; rw [HS.out]; simp [h2]
      go_enter Tryd.func58, Tryd.ntmps58
      go_wp2_with (first | (go_at_call 57; refine (refSmall_c c _).mono ?_; rintro e w' ⟨rfl, rfl⟩) | (go_at_call 68; refine (refDigit_c c _).mono ?_; rintro e w' ⟨rfl, rfl⟩))
      go_ret
      exact ⟨ret_bool hh.out.symm, rfl⟩
  · have hh : Hid (LX.part c = true) := by show _ = true; rw [HS.out]; simp [h1]
    go_enter Tryd.func58, Tryd.ntmps58
    go_wp2_with (first | (go_at_call 57; refine (refSmall_c c _).mono ?_; rintro e w' ⟨rfl, rfl⟩) | (go_at_call 68; refine (refDigit_c c _).mono ?_; rintro e w' ⟨rfl, rfl⟩))
    go_ret
    exact ⟨ret_bool hh.out.symm, rfl⟩
def nibI (c : UInt8) : Int := if LX.nib c = 16 then -1 else ((LX.nib c : Nat) : Int)
set_option maxHeartbeats 400000 in
theorem digit_c (c : UInt8) (w : World) : Calls Tryd.prog 61 #[.int .u8 (c.toNat : Int)] w fun e w' => e = .returned (.int .i64 ((LX.nib c : Nat))) ∧ w = w' := by
  have hb := u8_bd c
  obtain ⟨b1, b2⟩ := hb
  cases h1 : LX.isDig c
  · by_cases h2 : 97 ≤ (c.toNat : Int)
    · by_cases h3 : (c.toNat : Int) ≤ 102
      · have hh : Hid (((LX.nib c : Nat) : Int) = (c.toNat : Int) - 97 + 10) := by show _ = _; simp only [LX.nib, h1]; rw [if_neg (by simp), if_pos (by omega)]; omega
        go_enter Tryd.func61, Tryd.ntmps61
        go_wp2_with (first | (go_at_call 43; refine (isDigit_c c _).mono ?_; rintro e w' ⟨rfl, rfl⟩))
        go_ret
        exact ⟨ret_int (by have := hh.out; first | omega | (unfold nibI; rw [if_neg (by omega)]; omega)), rfl⟩
      · have hh : Hid (LX.nib c = 16) := by show _ = _; simp only [LX.nib, h1]; rw [if_neg (by simp), if_neg (by omega), if_neg (by omega)]
        have h3' : ¬ (c.toNat : Int) ≤ 70 := by omega
        go_enter Tryd.func61, Tryd.ntmps61
        go_wp2_with (first | (go_at_call 43; refine (isDigit_c c _).mono ?_; rintro e w' ⟨rfl, rfl⟩))
        go_ret
        exact ⟨ret_int (by have := hh.out; first | omega | (unfold nibI; rw [if_pos (by omega)])), rfl⟩
    · by_cases h3 : 65 ≤ (c.toNat : Int)
      · by_cases h4 : (c.toNat : Int) ≤ 70
        · have hh : Hid (((LX.nib c : Nat) : Int) = (c.toNat : Int) - 65 + 10) := by show _ = _; simp only [LX.nib, h1]; rw [if_neg (by simp), if_neg (by omega), if_pos (by omega)]; omega
          go_enter Tryd.func61, Tryd.ntmps61
          go_wp2_with (first | (go_at_call 43; refine (isDigit_c c _).mono ?_; rintro e w' ⟨rfl, rfl⟩))
          go_ret
          exact ⟨ret_int (by have := hh.out; first | omega | (unfold nibI; rw [if_neg (by omega)]; omega)), rfl⟩
        · have hh : Hid (LX.nib c = 16) := by show _ = _; simp only [LX.nib, h1]; rw [if_neg (by simp), if_neg (by omega), if_neg (by omega)]
          go_enter Tryd.func61, Tryd.ntmps61
          go_wp2_with (first | (go_at_call 43; refine (isDigit_c c _).mono ?_; rintro e w' ⟨rfl, rfl⟩))
          go_ret
          exact ⟨ret_int (by have := hh.out; first | omega | (unfold nibI; rw [if_pos (by omega)])), rfl⟩
      · have hh : Hid (LX.nib c = 16) := by show _ = _; simp only [LX.nib, h1]; rw [if_neg (by simp), if_neg (by omega), if_neg (by omega)]
        go_enter Tryd.func61, Tryd.ntmps61
        go_wp2_with (first | (go_at_call 43; refine (isDigit_c c _).mono ?_; rintro e w' ⟨rfl, rfl⟩))
        go_ret
        exact ⟨ret_int (by have := hh.out; first | omega | (unfold nibI; rw [if_pos (by omega)])), rfl⟩
  · have h2 : 48 ≤ (c.toNat : Int) := by simp [LX.isDig] at h1; omega
    have h3 : (c.toNat : Int) ≤ 57 := by simp [LX.isDig] at h1; omega
    have hh : Hid (((LX.nib c : Nat) : Int) = (c.toNat : Int) - 48) := by show _ = _; simp only [LX.nib, h1]; rw [if_pos trivial]; omega
    go_enter Tryd.func61, Tryd.ntmps61
    go_wp2_with (first | (go_at_call 43; refine (isDigit_c c _).mono ?_; rintro e w' ⟨rfl, rfl⟩))
    go_ret
    exact ⟨ret_int (by have := hh.out; first | omega | (unfold nibI; rw [if_neg (by omega)]; omega)), rfl⟩
def escV (c : UInt8) : Int := match LX.esc c with | some d => (d.toNat : Int) | none => 0
def escB (c : UInt8) : Bool := (LX.esc c).isSome
set_option maxHeartbeats 400000 in
theorem escaped_c (c : UInt8) (w : World) : Calls Tryd.prog 70 #[.int .u8 (c.toNat : Int)] w fun e w' => e = .returned (.tuple #[.int .u8 (escV c), .bool (escB c)]) ∧ w = w' := by
  by_cases k110 : (c.toNat : Int) = 110
  · have hh : Hid (escV c = 10 ∧ escB c = true) := by
      have : LX.esc c = some 10 := by unfold LX.esc; rw [if_pos (by omega)]
      show _ ∧ _
      simp [escV, escB, this]
    have k' : ((c.toNat : Int) == 110) = true := by simpa using k110
    have k0 := Lib.hid k110
    clear k110
    go_enter Tryd.func70, Tryd.ntmps70
    go_wp2
    go_ret2
    exact ⟨by rw [hh.out.1, hh.out.2]; first | rfl | (rw [k0.out]; rfl), rfl⟩
  · have n110 : ((c.toNat : Int) == 110) = false := by simpa using k110
    by_cases k116 : (c.toNat : Int) = 116
    · have hh : Hid (escV c = 9 ∧ escB c = true) := by
        have : LX.esc c = some 9 := by unfold LX.esc; rw [if_neg (by omega), if_pos (by omega)]
        show _ ∧ _
        simp [escV, escB, this]
      have k' : ((c.toNat : Int) == 116) = true := by simpa using k116
      have k0 := Lib.hid k116
      clear k116
      go_enter Tryd.func70, Tryd.ntmps70
      go_wp2
      go_ret2
      exact ⟨by rw [hh.out.1, hh.out.2]; first | rfl | (rw [k0.out]; rfl), rfl⟩
    · have n116 : ((c.toNat : Int) == 116) = false := by simpa using k116
      by_cases k115 : (c.toNat : Int) = 115
      · have hh : Hid (escV c = 32 ∧ escB c = true) := by
          have : LX.esc c = some 32 := by unfold LX.esc; rw [if_neg (by omega), if_neg (by omega), if_pos (by omega)]
          show _ ∧ _
          simp [escV, escB, this]
        have k' : ((c.toNat : Int) == 115) = true := by simpa using k115
        have k0 := Lib.hid k115
        clear k115
        go_enter Tryd.func70, Tryd.ntmps70
        go_wp2
        go_ret2
        exact ⟨by rw [hh.out.1, hh.out.2]; first | rfl | (rw [k0.out]; rfl), rfl⟩
      · have n115 : ((c.toNat : Int) == 115) = false := by simpa using k115
        by_cases k42 : (c.toNat : Int) = 42
        · have hh : Hid (escV c = 42 ∧ escB c = true) := by
            have : LX.esc c = some c := by unfold LX.esc; rw [if_neg (by omega), if_neg (by omega), if_neg (by omega), if_pos (by omega)]
            show _ ∧ _
            simp [escV, escB, this]; omega
          have k' : ((c.toNat : Int) == 42) = true := by simpa using k42
          have k0 := Lib.hid k42
          clear k42
          go_enter Tryd.func70, Tryd.ntmps70
          go_wp2
          go_ret2
          exact ⟨by rw [hh.out.1, hh.out.2]; first | rfl | (rw [k0.out]; rfl), rfl⟩
        · have n42 : ((c.toNat : Int) == 42) = false := by simpa using k42
          by_cases k39 : (c.toNat : Int) = 39
          · have hh : Hid (escV c = 39 ∧ escB c = true) := by
              have : LX.esc c = some c := by unfold LX.esc; rw [if_neg (by omega), if_neg (by omega), if_neg (by omega), if_pos (by omega)]
              show _ ∧ _
              simp [escV, escB, this]; omega
            have k' : ((c.toNat : Int) == 39) = true := by simpa using k39
            have k0 := Lib.hid k39
            clear k39
            go_enter Tryd.func70, Tryd.ntmps70
            go_wp2
            go_ret2
            exact ⟨by rw [hh.out.1, hh.out.2]; first | rfl | (rw [k0.out]; rfl), rfl⟩
          · have n39 : ((c.toNat : Int) == 39) = false := by simpa using k39
            by_cases k34 : (c.toNat : Int) = 34
            · have hh : Hid (escV c = 34 ∧ escB c = true) := by
                have : LX.esc c = some c := by unfold LX.esc; rw [if_neg (by omega), if_neg (by omega), if_neg (by omega), if_pos (by omega)]
                show _ ∧ _
                simp [escV, escB, this]; omega
              have k' : ((c.toNat : Int) == 34) = true := by simpa using k34
              have k0 := Lib.hid k34
              clear k34
              go_enter Tryd.func70, Tryd.ntmps70
              go_wp2
              go_ret2
              exact ⟨by rw [hh.out.1, hh.out.2]; first | rfl | (rw [k0.out]; rfl), rfl⟩
            · have n34 : ((c.toNat : Int) == 34) = false := by simpa using k34
              have hh : Hid (escV c = 0 ∧ escB c = false) := by
                have : LX.esc c = none := by unfold LX.esc; rw [if_neg (by omega), if_neg (by omega), if_neg (by omega), if_neg (by omega)]
                show _ ∧ _
                simp [escV, escB, this]
              go_enter Tryd.func70, Tryd.ntmps70
              go_wp2
              go_ret2
              exact ⟨by rw [hh.out.1, hh.out.2]; first | rfl | (rw [k0.out]; rfl), rfl⟩
end Go.Proofs.YtpcepfoebkmbgaaDoor
