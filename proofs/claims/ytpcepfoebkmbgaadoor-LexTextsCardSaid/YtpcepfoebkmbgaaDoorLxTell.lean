/- The program's scanner: which method reads the token that begins at a place. -/
import Derived.Test.YtpcepfoebkmbgaaDoorLxMSign
import Derived.Test.YtpcepfoebkmbgaaDoorLxMText
import Derived.Test.YtpcepfoebkmbgaaDoorLxMWord
import Derived.Laws.EntriesVeiled
namespace Go.Proofs.YtpcepfoebkmbgaaDoor
open Go.RowKit
set_option linter.unusedVariables false
theorem beginsWord_b {c : UInt8} {r : Bool} (h : LX.small c = r) (w : World) : Calls Tryd.prog 41 #[.int .u8 (c.toNat : Int)] w fun e w' => e = .returned (.bool r) ∧ w = w' := by subst h; exact beginsWord_c c w
theorem isDigit_b {c : UInt8} {r : Bool} (h : LX.isDig c = r) (w : World) : Calls Tryd.prog 43 #[.int .u8 (c.toNat : Int)] w fun e w' => e = .returned (.bool r) ∧ w = w' := by subst h; exact isDigit_c c w
/-- the method as a value -/
abbrev tellV (k : FuncId) (b : Nat) : Value := .func (.func k) #[.pointer (some ⟨b, 0, none⟩)] #[]
set_option maxHeartbeats 1000000 in
theorem teller_end (s : ByteArray) (b p : Nat) (km sg : Value) (w : World) (hs : s.size ≤ 1000000) (hS : Scn w b s p p km sg) (hp : p = s.size) :
    Calls Tryd.prog 28 #[.pointer (some ⟨b, 0, none⟩)] w fun e w' => e = .returned (tellV 40 b) ∧ ∃ n, w' = w.drewN n := by
  have hl := hS.lt
  obtain ⟨c0, c1, c2, c3, c4, c5⟩ := hS
  have k0 : (0 : Int) ≤ (p : Int) := by omega
  have g1 := intEqT (a := (p : Int)) (b := (s.size : Int)) (by omega)
  clear hp
  go_enter Tryd.func28, Tryd.ntmps28
  go_wp2
  go_quiet (fail)
  go_wp2
  go_ret
  exact ⟨rfl, _, rfl⟩
set_option maxHeartbeats 1000000 in
theorem teller_word (s : ByteArray) (b p : Nat) (km sg : Value) (w : World) (hs : s.size ≤ 1000000) (hS : Scn w b s p p km sg) (hp : p < s.size) (hsm : LX.small s[p] = true) :
    Calls Tryd.prog 28 #[.pointer (some ⟨b, 0, none⟩)] w fun e w' => e = .returned (tellV 42 b) ∧ ∃ n, w' = w.drewN n := by
  have hl := hS.lt
  obtain ⟨c0, c1, c2, c3, c4, c5⟩ := hS
  have k0 : (0 : Int) ≤ (p : Int) := by omega
  have g1 := intEqF (a := (p : Int)) (b := (s.size : Int)) (by omega)
  have g2 : (p : Int) < (s.size : Int) := by omega
  have HBW := Lib.hid (fun W => beginsWord_b hsm W)
  clear hsm
  go_enter Tryd.func28, Tryd.ntmps28
  go_wp2
  go_quiet (fail)
  go_wp2
  go_quiet (fail)
  go_wp2_with (first | (go_at_call 41; refine (HBW.out _).mono ?_; rintro e w' ⟨rfl, rfl⟩))
  go_ret
  exact ⟨rfl, _, rfl⟩
set_option maxHeartbeats 1000000 in
theorem teller_decimal (s : ByteArray) (b p : Nat) (km sg : Value) (w : World) (hs : s.size ≤ 1000000) (hS : Scn w b s p p km sg) (hp : p < s.size) (hsm : LX.small s[p] = false) (hdg : LX.isDig s[p] = true) :
    Calls Tryd.prog 28 #[.pointer (some ⟨b, 0, none⟩)] w fun e w' => e = .returned (tellV 44 b) ∧ ∃ n, w' = w.drewN n := by
  have hl := hS.lt
  obtain ⟨c0, c1, c2, c3, c4, c5⟩ := hS
  have k0 : (0 : Int) ≤ (p : Int) := by omega
  have g1 := intEqF (a := (p : Int)) (b := (s.size : Int)) (by omega)
  have g2 : (p : Int) < (s.size : Int) := by omega
  have HBW := Lib.hid (fun W => beginsWord_b hsm W)
  have HDG := Lib.hid (fun W => isDigit_b hdg W)
  clear hsm hdg
  go_enter Tryd.func28, Tryd.ntmps28
  go_wp2
  go_quiet (fail)
  go_wp2
  go_quiet (fail)
  go_wp2_with (first | (go_at_call 41; refine (HBW.out _).mono ?_; rintro e w' ⟨rfl, rfl⟩) | (go_at_call 43; refine (HDG.out _).mono ?_; rintro e w' ⟨rfl, rfl⟩))
  go_ret
  exact ⟨rfl, _, rfl⟩
set_option maxHeartbeats 1000000 in
theorem teller_hexadecimal (s : ByteArray) (b p : Nat) (km sg : Value) (w : World) (hs : s.size ≤ 1000000) (hS : Scn w b s p p km sg) (hp : p < s.size) (hsm : LX.small s[p] = false) (hdg : LX.isDig s[p] = false) (h35 : s[p].toNat = 35) :
    Calls Tryd.prog 28 #[.pointer (some ⟨b, 0, none⟩)] w fun e w' => e = .returned (tellV 45 b) ∧ ∃ n, w' = w.drewN n := by
  have hl := hS.lt
  obtain ⟨c0, c1, c2, c3, c4, c5⟩ := hS
  have k0 : (0 : Int) ≤ (p : Int) := by omega
  have g1 := intEqF (a := (p : Int)) (b := (s.size : Int)) (by omega)
  have g2 : (p : Int) < (s.size : Int) := by omega
  have HBW := Lib.hid (fun W => beginsWord_b hsm W)
  have HDG := Lib.hid (fun W => isDigit_b hdg W)
  have t35 := eqT (c := s[p]) 35 (by omega)
  clear hsm hdg h35
  go_enter Tryd.func28, Tryd.ntmps28
  go_wp2
  go_quiet (fail)
  go_wp2
  go_quiet (fail)
  go_wp2_with (first | (go_at_call 41; refine (HBW.out _).mono ?_; rintro e w' ⟨rfl, rfl⟩) | (go_at_call 43; refine (HDG.out _).mono ?_; rintro e w' ⟨rfl, rfl⟩))
  go_ret
  exact ⟨rfl, _, rfl⟩
set_option maxHeartbeats 1000000 in
theorem teller_character (s : ByteArray) (b p : Nat) (km sg : Value) (w : World) (hs : s.size ≤ 1000000) (hS : Scn w b s p p km sg) (hp : p < s.size) (hsm : LX.small s[p] = false) (hdg : LX.isDig s[p] = false) (h35 : s[p].toNat ≠ 35) (h39 : s[p].toNat = 39) :
    Calls Tryd.prog 28 #[.pointer (some ⟨b, 0, none⟩)] w fun e w' => e = .returned (tellV 46 b) ∧ ∃ n, w' = w.drewN n := by
  have hl := hS.lt
  obtain ⟨c0, c1, c2, c3, c4, c5⟩ := hS
  have k0 : (0 : Int) ≤ (p : Int) := by omega
  have g1 := intEqF (a := (p : Int)) (b := (s.size : Int)) (by omega)
  have g2 : (p : Int) < (s.size : Int) := by omega
  have HBW := Lib.hid (fun W => beginsWord_b hsm W)
  have HDG := Lib.hid (fun W => isDigit_b hdg W)
  have t35 := eqF (c := s[p]) 35 (by omega)
  have t39 := eqT (c := s[p]) 39 (by omega)
  clear hsm hdg h35 h39
  go_enter Tryd.func28, Tryd.ntmps28
  go_wp2
  go_quiet (fail)
  go_wp2
  go_quiet (fail)
  go_wp2_with (first | (go_at_call 41; refine (HBW.out _).mono ?_; rintro e w' ⟨rfl, rfl⟩) | (go_at_call 43; refine (HDG.out _).mono ?_; rintro e w' ⟨rfl, rfl⟩))
  go_ret
  exact ⟨rfl, _, rfl⟩
set_option maxHeartbeats 1000000 in
theorem teller_text (s : ByteArray) (b p : Nat) (km sg : Value) (w : World) (hs : s.size ≤ 1000000) (hS : Scn w b s p p km sg) (hp : p < s.size) (hsm : LX.small s[p] = false) (hdg : LX.isDig s[p] = false) (h35 : s[p].toNat ≠ 35) (h39 : s[p].toNat ≠ 39) (h34 : s[p].toNat = 34) :
    Calls Tryd.prog 28 #[.pointer (some ⟨b, 0, none⟩)] w fun e w' => e = .returned (tellV 47 b) ∧ ∃ n, w' = w.drewN n := by
  have hl := hS.lt
  obtain ⟨c0, c1, c2, c3, c4, c5⟩ := hS
  have k0 : (0 : Int) ≤ (p : Int) := by omega
  have g1 := intEqF (a := (p : Int)) (b := (s.size : Int)) (by omega)
  have g2 : (p : Int) < (s.size : Int) := by omega
  have HBW := Lib.hid (fun W => beginsWord_b hsm W)
  have HDG := Lib.hid (fun W => isDigit_b hdg W)
  have t35 := eqF (c := s[p]) 35 (by omega)
  have t39 := eqF (c := s[p]) 39 (by omega)
  have t34 := eqT (c := s[p]) 34 (by omega)
  clear hsm hdg h35 h39 h34
  go_enter Tryd.func28, Tryd.ntmps28
  go_wp2
  go_quiet (fail)
  go_wp2
  go_quiet (fail)
  go_wp2_with (first | (go_at_call 41; refine (HBW.out _).mono ?_; rintro e w' ⟨rfl, rfl⟩) | (go_at_call 43; refine (HDG.out _).mono ?_; rintro e w' ⟨rfl, rfl⟩))
  go_ret
  exact ⟨rfl, _, rfl⟩
set_option maxHeartbeats 1000000 in
theorem teller_sign (s : ByteArray) (b p : Nat) (km sg : Value) (w : World) (hs : s.size ≤ 1000000) (hS : Scn w b s p p km sg) (hp : p < s.size) (hsm : LX.small s[p] = false) (hdg : LX.isDig s[p] = false) (h35 : s[p].toNat ≠ 35) (h39 : s[p].toNat ≠ 39) (h34 : s[p].toNat ≠ 34) :
    Calls Tryd.prog 28 #[.pointer (some ⟨b, 0, none⟩)] w fun e w' => e = .returned (tellV 48 b) ∧ ∃ n, w' = w.drewN n := by
  have hl := hS.lt
  obtain ⟨c0, c1, c2, c3, c4, c5⟩ := hS
  have k0 : (0 : Int) ≤ (p : Int) := by omega
  have g1 := intEqF (a := (p : Int)) (b := (s.size : Int)) (by omega)
  have g2 : (p : Int) < (s.size : Int) := by omega
  have HBW := Lib.hid (fun W => beginsWord_b hsm W)
  have HDG := Lib.hid (fun W => isDigit_b hdg W)
  have t35 := eqF (c := s[p]) 35 (by omega)
  have t39 := eqF (c := s[p]) 39 (by omega)
  have t34 := eqF (c := s[p]) 34 (by omega)
  clear hsm hdg h35 h39 h34
  go_enter Tryd.func28, Tryd.ntmps28
  go_wp2
  go_quiet (fail)
  go_wp2
  go_quiet (fail)
  go_wp2_with (first | (go_at_call 41; refine (HBW.out _).mono ?_; rintro e w' ⟨rfl, rfl⟩) | (go_at_call 43; refine (HDG.out _).mono ?_; rintro e w' ⟨rfl, rfl⟩))
  go_ret
  exact ⟨rfl, _, rfl⟩
end Go.Proofs.YtpcepfoebkmbgaaDoor
