/- A source from a byte on; tests on a byte in the walk's own spelling. -/
import Derived.Test.YtfnkafnjpldaoaaDoorLxName
namespace Go.Proofs.YtfnkafnjpldaoaaDoor
open Go.RowKit
set_option linter.unusedVariables false
/-- the source from byte k on -/
def tl (s : ByteArray) (k : Nat) : LX.Bs := (bs s).drop k
theorem tl_zero (s : ByteArray) : tl s 0 = bs s := rfl
theorem tl_cons (s : ByteArray) (k : Nat) (h : k < s.size) : tl s k = s[k] :: tl s (k + 1) := by
  unfold tl
  rw [List.drop_eq_getElem_cons (by rw [bs_len]; exact h)]; rfl
theorem tl_nil (s : ByteArray) (k : Nat) (h : s.size ≤ k) : tl s k = [] := by
  unfold tl
  exact List.drop_of_length_le (by rw [bs_len]; exact h)
theorem tl_len (s : ByteArray) (k : Nat) : (tl s k).length = s.size - k := by unfold tl; rw [List.length_drop, bs_len]
theorem tl_drop (s : ByteArray) (k n : Nat) : (tl s k).drop n = tl s (k + n) := by unfold tl; rw [List.drop_drop]
theorem tl_head (s : ByteArray) (k : Nat) : (tl s k).head? = if h : k < s.size then some s[k] else none := by
  split
  · rename_i h; rw [tl_cons s k h]; rfl
  · rename_i h; rw [tl_nil s k (by omega)]; rfl
theorem eqT {c : UInt8} (m : Int) (h : (c.toNat : Int) = m) : ((c.toNat : Int) == m) = true := by simp [h]
theorem eqF {c : UInt8} (m : Int) (h : (c.toNat : Int) ≠ m) : ((c.toNat : Int) == m) = false := by simp; omega
theorem neT {c : UInt8} (m : Int) (h : (c.toNat : Int) ≠ m) : ((c.toNat : Int) != m) = true := by simp; omega
theorem neF {c : UInt8} (m : Int) (h : (c.toNat : Int) = m) : ((c.toNat : Int) != m) = false := by simp [h]
theorem u8_ext {c d : UInt8} (h : c.toNat = d.toNat) : c = d := UInt8.toNat_inj.1 h
theorem skip_f (c : UInt8) (l : LX.Bs) : LX.skipG false (c :: l) = if c.toNat = 32 ∨ c.toNat = 9 ∨ c.toNat = 10 then LX.skipG false l + 1 else if c.toNat = 47 ∧ l.head? = some 47 then LX.skipG true l + 1 else 0 := rfl
theorem skip_t (c : UInt8) (l : LX.Bs) : LX.skipG true (c :: l) = if c.toNat = 10 then LX.skipG false l + 1 else LX.skipG true l + 1 := rfl
theorem skip_nil (s : ByteArray) (k : Nat) (st : Bool) (h : s.size ≤ k) : LX.skipG st (tl s k) = 0 := by rw [tl_nil s k h]; cases st <;> rfl
theorem skip_blank (s : ByteArray) (k : Nat) (h : k < s.size) (hc : s[k].toNat = 32 ∨ s[k].toNat = 9 ∨ s[k].toNat = 10) : LX.skipG false (tl s k) = LX.skipG false (tl s (k + 1)) + 1 := by
  rw [tl_cons s k h, skip_f, if_pos hc]
theorem skip_com (s : ByteArray) (k : Nat) (h : k < s.size) (h47 : s[k].toNat = 47) (h2 : k + 1 < s.size) (hc : s[k + 1].toNat = 47) : LX.skipG false (tl s k) = LX.skipG true (tl s k) := by
  have hx : s[k + 1] = 47 := u8_ext hc
  rw [tl_cons s k h, skip_f, skip_t, if_neg (by omega), if_pos ⟨h47, by rw [tl_cons s (k + 1) h2, hx]; rfl⟩, if_neg (by omega)]
theorem skip_tok (s : ByteArray) (k : Nat) (h : k < s.size) (h3 : ¬ (s[k].toNat = 32 ∨ s[k].toNat = 9 ∨ s[k].toNat = 10)) (h47 : s[k].toNat = 47 → ∀ h2 : k + 1 < s.size, s[k + 1].toNat ≠ 47) : LX.skipG false (tl s k) = 0 := by
  rw [tl_cons s k h, skip_f, if_neg h3, if_neg]
  rintro ⟨ha, hb⟩
  rw [tl_head] at hb
  split at hb
  · rename_i h2
    have := h47 ha h2
    simp at hb
    rw [hb] at this; exact this rfl
  · cases hb
theorem skip_in (s : ByteArray) (k : Nat) (h : k < s.size) (hc : s[k].toNat ≠ 10) : LX.skipG true (tl s k) = LX.skipG true (tl s (k + 1)) + 1 := by
  rw [tl_cons s k h, skip_t, if_neg hc]
theorem skip_out (s : ByteArray) (k : Nat) (h : k < s.size) (hc : s[k].toNat = 10) : LX.skipG true (tl s k) = LX.skipG false (tl s k) := by
  rw [tl_cons s k h, skip_f, skip_t, if_pos hc, if_pos (.inr (.inr hc))]
theorem skip_le (s : ByteArray) (k : Nat) (st : Bool) (h : k ≤ s.size) : k + LX.skipG st (tl s k) ≤ s.size := by
  have := LX.skipG_le (tl s k) st
  rw [tl_len] at this; omega
theorem ext_take (s : ByteArray) (k j n : Nat) (h : j = k + n) : bs (s.extract k j) = (tl s k).take n := by
  subst h
  have : s.extract k (k + n) = ⟨(s.data.extract k (k + n))⟩ := by rw [← ByteArray.data_extract]
  rw [this]
  simp [bs, tl, Array.toList_extract]
theorem bcell {W w1 : World} (hb : Below W.heap.size W w1) : (∀ b o, b < W.heap.size → w1.cell? ⟨b, o, none⟩ = W.cell? ⟨b, o, none⟩) ∧ (∀ b o, b < W.heap.size → w1.frozen? ⟨b, o, none⟩ = W.frozen? ⟨b, o, none⟩) :=
  ⟨fun b o h => hb.cell (p := ⟨b, o, none⟩) h, fun b o h => hb.frozen (p := ⟨b, o, none⟩) h⟩
/-- what a token function of the document's answer gives at byte k -/
def TokR (r : LX.Res) (k : Nat) (e : Ending) : Prop :=
  match r with
  | .good kd x n len => e = .returned (.tuple #[.agg #[.int .i64 (kd : Int), .string ⟨x.toArray⟩, .int .i64 n, .int .i64 (k : Int)], .int .i64 ((k + len : Nat) : Int), .int .i64 0])
  | .bad er => e = .returned (.tuple #[.agg #[.int .i64 0, .string ⟨#[]⟩, .int .i64 0, .int .i64 0], .int .i64 (k : Int), .int .i64 (er : Int)])
theorem TokR.good {r : LX.Res} {k kd len : Nat} {x : LX.Bs} {n : Int} (h : r = .good kd x n len) {a b c : Int} {y : ByteArray} (ha : a = kd) (hy : y = ⟨x.toArray⟩) (hb : b = n) (hc : c = ((k + len : Nat) : Int)) :
    TokR r k (.returned (.tuple #[.agg #[.int .i64 a, .string y, .int .i64 b, .int .i64 (k : Int)], .int .i64 c, .int .i64 0])) := by
  subst h ha hy hb hc; rfl
theorem TokR.bad {r : LX.Res} {k er : Nat} (h : r = .bad er) {a b : Int} (ha : a = (k : Int)) (hb : b = (er : Int)) :
    TokR r k (.returned (.tuple #[.agg #[.int .i64 0, .string ⟨#[]⟩, .int .i64 0, .int .i64 0], .int .i64 a, .int .i64 b])) := by
  subst h ha hb; rfl
end Go.Proofs.YtfnkafnjpldaoaaDoor
