/- Package word and its document answer give the same: Pack, Unpack, Bytes, Words, for every form. -/
import Derived.Test.YtmhifelkihcidaaWRpk
import Derived.Lib.ConvBytes
namespace Go.Proofs.Ytmhifelkihcidaa
open Go.RowKit WM
set_option linter.unusedVariables false

theorem Pack_same (s : ByteArray) (n : Int) (g : Bool) : ∃ ys er, ∀ w, Calls Try.prog 31 #[.string s, .agg #[.int .i64 n, .bool g]] w (GivesInts2 ys er w) ∧ Calls Try.prog 32 #[.string s, .agg #[.int .i64 n, .bool g]] w (GivesInts2 ys er w) := by
  by_cases hb : IsBits n
  · by_cases hs : 255 < s.size
    · exact ⟨_, _, fun w => ⟨Pack_limit s n g hb hs w, refPack_limit s n g hb hs w⟩⟩
    · exact ⟨_, _, fun w => ⟨Pack_ok s n g hb (by omega) w, refPack_ok s n g hb (by omega) w⟩⟩
  · exact ⟨_, _, fun w => ⟨Pack_form s n g hb w, refPack_form s n g hb w⟩⟩
theorem Rd.empty {k : IntKind} {w : World} {v : Value} (h : Rd k w v []) : ∃ a cap, v = .slice a 0 cap := by
  obtain ⟨a, cap, rfl, _⟩ := h; exact ⟨a, cap, rfl⟩
theorem Unpack_same (xs : List Int) (hm : xs.length ≤ 1000) (n : Int) (g : Bool) : ∃ s er, ∀ w v, Rd .i64 w v xs → Calls Try.prog 33 #[v, .agg #[.int .i64 n, .bool g]] w (GivesS2 s er w) ∧ Calls Try.prog 34 #[v, .agg #[.int .i64 n, .bool g]] w (GivesS2 s er w) := by
  by_cases hb : IsBits n
  · by_cases hne : 0 < xs.length
    · by_cases hr : ((xs.length * nb n : Nat) : Int) ≤ gb n g xs 0
      · exact ⟨_, _, fun w v hv => ⟨Unpack_short v xs n g hb (by omega) hne hr w hv, (refUnpack_some v xs n g hb (by omega) hne w hv).mono fun e w' h => h.1 hr⟩⟩
      · exact ⟨_, _, fun w v hv => ⟨Unpack_ok v xs n g hb (by omega) hne hr w hv, (refUnpack_some v xs n g hb (by omega) hne w hv).mono fun e w' h => h.2 hr⟩⟩
    · have h0 : xs = [] := List.length_eq_zero_iff.1 (by omega)
      subst h0
      refine ⟨⟨#[]⟩, 7, fun w v hv => ?_⟩
      obtain ⟨a, cap, rfl⟩ := hv.empty
      exact ⟨Unpack_empty a cap n g hb w, refUnpack_empty a cap n g hb w⟩
  · exact ⟨_, _, fun w v hv => ⟨Unpack_form v n g hb w, refUnpack_form v n g hb w⟩⟩
theorem Bytes_same (xs : List Int) (hm : xs.length ≤ 1000) (n : Int) (g : Bool) : ∃ ys er, ∀ w v, Rd .i64 w v xs → Calls Try.prog 35 #[v, .agg #[.int .i64 n, .bool g]] w (GivesB2 ys er w) ∧ Calls Try.prog 36 #[v, .agg #[.int .i64 n, .bool g]] w (GivesB2 ys er w) := by
  by_cases hb : IsBits n
  · exact ⟨_, _, fun w v hv => ⟨Bytes_ok v xs n g hb (by omega) w hv, refBytes_ok v xs n g hb (by omega) w hv⟩⟩
  · exact ⟨_, _, fun w v hv => ⟨Bytes_form v n g hb w, refBytes_form v n g hb w⟩⟩
theorem Words_same (bs : List Int) (hm : bs.length ≤ 1000) (hbd : ∀ j, 0 ≤ bs.getD j 0 ∧ bs.getD j 0 ≤ 255) (n : Int) (g : Bool) : ∃ ys er, ∀ w v, Rd .u8 w v bs → Calls Try.prog 38 #[v, .agg #[.int .i64 n, .bool g]] w (GivesInts2 ys er w) ∧ Calls Try.prog 39 #[v, .agg #[.int .i64 n, .bool g]] w (GivesInts2 ys er w) := by
  by_cases hb : IsBits n
  · by_cases hr : bs.length % nb n = 0
    · have hq : bs.length = bs.length / nb n * nb n := by have := Nat.div_add_mod bs.length (nb n); rw [hr, Nat.mul_comm] at this; omega
      have hj : jn n g bs = jwl n g bs (bs.length / nb n) := jn_jwl hb g bs hbd _ (by have h := div_up hb (bs.length / nb n); rw [← hq] at h; exact h)
      refine ⟨_, _, fun w v hv => ⟨Words_ok v bs n g hb (by omega) hr hbd w hv, ?_⟩⟩
      rw [hj]
      exact refWords_ok v bs n g hb (by omega) _ hq hbd w hv
    · refine ⟨[], 3, fun w v hv => ?_⟩
      obtain ⟨a, cap, rfl, _⟩ := hv
      exact ⟨Words_odd a _ cap n g hb (by omega) hr w, refWords_odd a _ cap n g hb (by omega) hr w⟩
  · exact ⟨_, _, fun w v hv => ⟨Words_form v n g hb w, refWords_form v n g hb w⟩⟩
/-- '[]byte(s)', whatever the world -/
theorem conv_str (s : ByteArray) (w : World) : (convert 9 46 (.string s)).run Try.prog w = .ok (.slice (some ⟨w.heap.size, 0, none⟩) s.size (grownCap w s.size 0 5)) (Lib.bytesWorld w 5 s) :=
  Lib.run_convert_string_bytes (P := Try.prog) w 9 46 5 s Try.underlying9 Try.underlying46 Try.underlying5
theorem below_bytes (w : World) (s : ByteArray) : Below w.heap.size w (Lib.bytesWorld w 5 s) :=
  ⟨rfl, rfl, rfl, by rw [Lib.bytesWorld_size]; omega, fun k hk => Lib.bytesWorld_at_old w _ s k hk⟩
theorem rd_bytes (w : World) (s : ByteArray) (cap : Nat) (hs : s.size ≤ 1000) : Rd .u8 (Lib.bytesWorld w 5 s) (.slice (some ⟨w.heap.size, 0, none⟩) s.size cap) (sbytes s) := by
  refine ⟨_, cap, by rw [sbytes_len], by rw [sbytes_len]; omega, .inr ⟨_, 0, rfl, fun i hi => ?_⟩⟩
  rw [sbytes_len] at hi
  rw [Nat.zero_add, Lib.bytesWorld_cell w _ s i hi]
  have h : i < s.data.toList.length := by simpa using hi
  simp only [sbytes, List.getD_eq_getElem?_getD, List.getElem?_map, List.getElem?_eq_getElem h, Option.map_some, Option.getD_some]
end Go.Proofs.Ytmhifelkihcidaa
