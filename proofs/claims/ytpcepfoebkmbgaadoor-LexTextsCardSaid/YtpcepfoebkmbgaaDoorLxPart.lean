/- The program's scanner: a byte or an escape. -/
import Derived.Test.YtpcepfoebkmbgaaDoorLxMet
import Derived.Test.YtpcepfoebkmbgaaDoorLxRefC
namespace Go.Proofs.YtpcepfoebkmbgaaDoor
open Go.RowKit
set_option linter.unusedVariables false
/-- what 'part' gives -/
def PartR (qt : UInt8) (s : ByteArray) (q : Nat) (e : Ending) (w : World) (b p : Nat) (km sg : Value) : Prop :=
  match LX.letter qt (tl s q) with
  | some (d, n) => e = .returned (.tuple #[.int .u8 (d.toNat : Int), .bool true]) ∧ Scn w b s p (q + n) km sg
  | none => (∃ a : Int, e = .returned (.tuple #[.int .u8 a, .bool false])) ∧ ∃ q', Scn w b s p q' km sg
theorem PartR.no {qt : UInt8} {s : ByteArray} {q : Nat} {w : World} {b p : Nat} {km sg : Value} (h : LX.letter qt (tl s q) = none) (a : Int) {q' : Nat} (hS : Scn w b s p q' km sg) : PartR qt s q (.returned (.tuple #[.int .u8 a, .bool false])) w b p km sg := by
  unfold PartR; rw [h]; exact ⟨⟨a, rfl⟩, q', hS⟩
theorem PartR.yes {qt : UInt8} {s : ByteArray} {q : Nat} {w : World} {b p : Nat} {km sg : Value} {d : UInt8} {n : Nat} (h : LX.letter qt (tl s q) = some (d, n)) {a : Int} (ha : a = (d.toNat : Int)) {q' : Nat} (hq : q' = q + n) (hS : Scn w b s p q' km sg) : PartR qt s q (.returned (.tuple #[.int .u8 a, .bool true])) w b p km sg := by
  unfold PartR; rw [h, ha]; subst hq; exact ⟨rfl, hS⟩
theorem res_of {X wr : World} {b r : Nat} {T : TypeId} (hX : X.heap.size = r) (hg : (X.alloc (.cells #[.int .i64 0, .string ⟨#[]⟩, .int .i64 0, .int .i64 0] T)).grownBy wr (some b)) (hne : r ≠ b) :
    wr.cell? ⟨r, 0, none⟩ = some (.int .i64 0) ∧ wr.cell? ⟨r, 1, none⟩ = some (.string ⟨#[]⟩) ∧ wr.cell? ⟨r, 2, none⟩ = some (.int .i64 0) ∧ wr.cell? ⟨r, 3, none⟩ = some (.int .i64 0) ∧ (∀ o, wr.frozen? ⟨r, o, none⟩ = false) ∧ r < wr.heap.size := by
  subst hX
  obtain ⟨hc, hf⟩ := only_cells (r := X.heap.size) hg (by simp) hne
  have hsz := hg.size
  refine ⟨(hc 0).trans (by simp), (hc 1).trans (by simp), (hc 2).trans (by simp), (hc 3).trans (by simp), fun o => (hf o).trans (by simp), ?_⟩
  simp at hsz; omega
theorem intEqT {a b : Int} (h : a = b) : (a == b) = true := by simp [h]
theorem intEqF {a b : Int} (h : a ≠ b) : (a == b) = false := by simpa using h
theorem isPlain_true {c : UInt8} (h : LX.plain c = true) (w : World) : Calls Tryd.prog 16 #[.int .u8 (c.toNat : Int)] w fun e w' => e = .returned (.bool true) ∧ w = w' := by
  refine (isPlain_c c w).mono ?_
  rintro e w' ⟨h1, h2⟩
  rw [h] at h1; exact ⟨h1, h2⟩
theorem isPlain_false {c : UInt8} (h : LX.plain c = false) (w : World) : Calls Tryd.prog 16 #[.int .u8 (c.toNat : Int)] w fun e w' => e = .returned (.bool false) ∧ w = w' := by
  refine (isPlain_c c w).mono ?_
  rintro e w' ⟨h1, h2⟩
  rw [h] at h1; exact ⟨h1, h2⟩
theorem escaped_some {c d : UInt8} (h : LX.esc c = some d) (w : World) : Calls Tryd.prog 70 #[.int .u8 (c.toNat : Int)] w fun e w' => e = .returned (.tuple #[.int .u8 (d.toNat : Int), .bool true]) ∧ w = w' := by
  refine (escaped_c c w).mono ?_
  rintro e w' ⟨h1, h2⟩
  unfold escV escB at h1
  rw [h] at h1; exact ⟨h1, h2⟩
theorem escaped_none {c : UInt8} (h : LX.esc c = none) (w : World) : Calls Tryd.prog 70 #[.int .u8 (c.toNat : Int)] w fun e w' => e = .returned (.tuple #[.int .u8 0, .bool false]) ∧ w = w' := by
  refine (escaped_c c w).mono ?_
  rintro e w' ⟨h1, h2⟩
  unfold escV escB at h1
  rw [h] at h1; exact ⟨h1, h2⟩
set_option maxHeartbeats 1000000 in
theorem part_c (qt : UInt8) (m : Int) (hm : (qt.toNat : Int) = m) (s : ByteArray) (b p q : Nat) (km sg : Value) (w : World) (hs : s.size ≤ 1000000) (hq : q ≤ s.size) (hS : Scn w b s p q km sg) :
    Calls Tryd.prog 62 #[.pointer (some ⟨b, 0, none⟩), .int .u8 m] w fun e w' => PartR qt s q e w' b p km sg ∧ w.grownBy w' (some b) := by
  have hl := hS.lt
  have HS := Lib.hid hS
  obtain ⟨c0, c1, c2, c3, c4, c5⟩ := hS
  have k0 : (0 : Int) ≤ (q : Int) := by omega
  by_cases hlt : q < s.size
  rotate_left
  · have hn : Hid (LX.letter qt (tl s q) = none) := letter_nil qt s q (by omega)
    have g1 := intEqT (a := (q : Int)) (b := (s.size : Int)) (by omega)
    clear hm
    go_enter Tryd.func62, Tryd.ntmps62
    go_wp2
    go_quiet (fail)
    go_wp2
    go_ret2
    exact ⟨.no hn.out _ (HS.out.drewN _), only_drewN (only_refl _ _) _⟩
  have g1 := intEqF (a := (q : Int)) (b := (s.size : Int)) (by omega)
  by_cases h42 : s[q].toNat = 42
  rotate_left
  · have HL : Hid (LX.letter qt (tl s q) = if LX.plain s[q] ∧ s[q] ≠ qt then some (s[q], 1) else none) := letter_plain qt s q hlt h42
    have f1 := neT (c := s[q]) 42 (by omega)
    by_cases hp : LX.plain s[q] = true
    · have HC := Lib.hid (fun W => isPlain_true hp W)
      by_cases hqt : s[q] = qt
      · have hn : Hid (LX.letter qt (tl s q) = none) := by show _ = _; rw [HL.out, if_neg (fun h => h.2 hqt)]
        have f2 : ((s[q].toNat : Int) != m) = false := by rw [hqt, hm]; simp
        clear HL hp hqt h42 hm
        go_enter Tryd.func62, Tryd.ntmps62
        go_wp2
        go_quiet (fail)
        go_wp2
        go_quiet (fail)
        go_wp2_with (go_at_call 16; refine (HC.out _).mono ?_; rintro e w' ⟨rfl, rfl⟩)
        go_ret2
        exact ⟨.no hn.out _ ((HS.out.drewN _).setNext _ _ (Int.natCast_succ _).symm), only_setCell (only_drewN (only_refl _ _) _) (.inl rfl) _⟩
      · have hn : Hid (LX.letter qt (tl s q) = some (s[q], 1)) := by show _ = _; rw [HL.out, if_pos ⟨hp, hqt⟩]
        have f2 : ((s[q].toNat : Int) != m) = true := neT m (fun h => hqt (u8_ext (by omega)))
        clear HL hp hqt h42 hm
        go_enter Tryd.func62, Tryd.ntmps62
        go_wp2
        go_quiet (fail)
        go_wp2
        go_quiet (fail)
        go_wp2_with (go_at_call 16; refine (HC.out _).mono ?_; rintro e w' ⟨rfl, rfl⟩)
        go_ret2
        exact ⟨.yes hn.out rfl rfl ((HS.out.drewN _).setNext _ _ (Int.natCast_succ _).symm), only_setCell (only_drewN (only_refl _ _) _) (.inl rfl) _⟩
    · have hn : Hid (LX.letter qt (tl s q) = none) := by show _ = _; rw [HL.out, if_neg (fun h => hp h.1)]
      have HC := Lib.hid (fun W => isPlain_false (by simpa using hp : LX.plain s[q] = false) W)
      clear HL hp h42 hm
      go_enter Tryd.func62, Tryd.ntmps62
      go_wp2
      go_quiet (fail)
      go_wp2
      go_quiet (fail)
      go_wp2_with (go_at_call 16; refine (HC.out _).mono ?_; rintro e w' ⟨rfl, rfl⟩)
      go_ret2
      exact ⟨.no hn.out _ ((HS.out.drewN _).setNext _ _ (Int.natCast_succ _).symm), only_setCell (only_drewN (only_refl _ _) _) (.inl rfl) _⟩
  · have f1 := neF (c := s[q]) 42 (by omega)
    by_cases h2 : q + 1 < s.size
    rotate_left
    · have hn : Hid (LX.letter qt (tl s q) = none) := letter_star qt s q hlt h42 h2
      have g2 := intEqT (a := (q : Int) + 1) (b := (s.size : Int)) (by omega)
      clear hm h42
      go_enter Tryd.func62, Tryd.ntmps62
      go_wp2
      go_quiet (fail)
      go_wp2
      go_quiet (fail)
      go_wp2
      go_quiet (fail)
      go_wp2
      go_ret2
      exact ⟨.no hn.out _ (((HS.out.drewN _).setNext _ _ (Int.natCast_succ _).symm).drewN _), only_drewN (only_setCell (only_drewN (only_refl _ _) _) (.inl rfl) _) _⟩
    have g2 := intEqF (a := (q : Int) + 1) (b := (s.size : Int)) (by omega)
    have HL : Hid (LX.letter qt (tl s q) = (LX.esc s[q + 1]).map (fun x => (x, 2))) := letter_esc qt s q hlt h42 h2
    have k1 : (0 : Int) ≤ (q : Int) + 1 := by omega
    have k2 : (q : Int) + 1 < (s.size : Int) := by omega
    have k3 : ((q : Int) + 1).toNat = q + 1 := by omega
    clear hm h42
    cases he : LX.esc s[q + 1] with
    | none =>
      have hn : Hid (LX.letter qt (tl s q) = none) := by show _ = _; rw [HL.out, he]; rfl
      have HC := Lib.hid (fun W => escaped_none he W)
      clear HL he
      go_enter Tryd.func62, Tryd.ntmps62
      go_wp2
      go_quiet (fail)
      go_wp2
      go_quiet (fail)
      go_wp2
      go_quiet (fail)
      go_wp2
      go_quiet (fail)
      go_wp2_with (go_at_call 70; refine (HC.out _).mono ?_; rintro e w' ⟨rfl, rfl⟩)
      go_ret2
      exact ⟨.no hn.out _ ((((HS.out.drewN _).setNext _ (q + 1) (by omega)).drewN _).setNext _ (q + 2) (by omega)), only_setCell (only_drewN (only_setCell (only_drewN (only_refl _ _) _) (.inl rfl) _) _) (.inl rfl) _⟩
    | some d =>
      have hn : Hid (LX.letter qt (tl s q) = some (d, 2)) := by show _ = _; rw [HL.out, he]; rfl
      have HC := Lib.hid (fun W => escaped_some he W)
      clear HL he
      go_enter Tryd.func62, Tryd.ntmps62
      go_wp2
      go_quiet (fail)
      go_wp2
      go_quiet (fail)
      go_wp2
      go_quiet (fail)
      go_wp2
      go_quiet (fail)
      go_wp2_with (go_at_call 70; refine (HC.out _).mono ?_; rintro e w' ⟨rfl, rfl⟩)
      go_ret2
      exact ⟨.yes hn.out rfl rfl ((((HS.out.drewN _).setNext _ (q + 1) (by omega)).drewN _).setNext _ (q + 2) (by omega)), only_setCell (only_drewN (only_setCell (only_drewN (only_refl _ _) _) (.inl rfl) _) _) (.inl rfl) _⟩
end Go.Proofs.YtpcepfoebkmbgaaDoor
