/- The document's answer: the text of tokens. -/
import Derived.Test.YtpcepfoebkmbgaaDoorLxRwr
import Derived.Test.YtpcepfoebkmbgaaDoorLxQuoR
namespace Go.Proofs.YtpcepfoebkmbgaaDoor
open Go.RowKit
set_option linter.unusedVariables false
set_option maxRecDepth 100000 in
set_option maxHeartbeats 4000000 in
theorem refText_c (a : Option Addr) (len cap : Nat) (ts : List LX.ATok) (w : World) (hI : IsToks w a len cap ts) (hl : len ≤ 20000) :
    Calls Tryd.prog 13 #[.slice a len cap] w fun e w' => TextE ts e ∧ Below w.heap.size w w' := by
  have hll := hI.1
  have hla : len = 0 ∨ ∃ lb off, a = some ⟨lb, off, none⟩ ∧ lb < w.heap.size := by
    rcases hI.2.2.2.2 with h | ⟨lb, off, h, hc⟩
    · exact .inl (by have := hI.2.1; omega)
    · rcases Nat.eq_zero_or_pos len with h0 | h0
      · exact .inl h0
      · exact .inr ⟨lb, off, h, by have := World.block_lt_of_cell? w _ (hc 0 h0).1; simpa using this⟩
  have HI := Lib.hid hI
  have HLA := Lib.hid hla
  clear hI hla
  go_enter Tryd.func13, Tryd.ntmps13
  go_wp2
  go_loopw [4, 5] (fun o i wr => ∃ (k : Nat) (acc : LX.Bs), k ≤ len ∧ i = .int .i64 k ∧ o = .string ⟨acc.toArray⟩ ∧ Hid (LX.TextAt ts k acc) ∧ acc.length ≤ 4060000 ∧ Below w.heap.size w wr) (fun _ i _ => len - (intOf i).toNat)
  case atStart => exact ⟨0, [], Nat.zero_le _, rfl, rfl, LX.TextAt.start ts, by simp, Below.refl _ _⟩
  case round =>
    obtain ⟨k, acc, hk, rfl, rfl, hq, hacc, hbl⟩ := hrel
    by_cases hlt : k < len
    · have hkl : k < ts.length := by omega
      obtain ⟨lb, off, rfl, hlb⟩ := HLA.out.resolve_left (by omega)
      obtain ⟨t, htk⟩ : ∃ t, ts.getD k az = t := ⟨_, rfl⟩
      have htc : TokCells wr lb (off + k * 4) t := by
        rcases HI.out.2.2.2.2 with h | ⟨lb', off', h, hc⟩
        · have := HI.out.2.1; omega
        · injection h with h
          injection h with h1 h2
          subst h1 h2
          have := hc k hlt
          rw [htk] at this
          exact this.keep hbl
      have hok : okTok t := by
        refine HI.out.2.2.2.1 t ?_
        rw [← htk, List.getD_eq_getElem?_getD, List.getElem?_eq_getElem hkl]; exact List.getElem_mem hkl
      obtain ⟨t0, t1, t2, t3⟩ := htc
      obtain ⟨o1, o2, o3⟩ := hok
      obtain ⟨sb, hsb⟩ : ∃ sb : ByteArray, (⟨t.s.toArray⟩ : ByteArray) = sb := ⟨_, rfl⟩
      have hsz : sb.size ≤ 140737488351232 := by rw [← hsb]; simpa [ByteArray.size] using o1
      have ebs : bs sb = t.s := by rw [← hsb]; rfl
      have HSZ := Lib.hid hsz
      have HW : Hid (∀ W, Calls Tryd.prog 26 #[.agg #[.int .i64 t.kind, .string sb, .int .i64 t.n, .int .i64 t.pos]] W fun e w' => WriteE t e ∧ Below W.heap.size W w') := by
        intro W
        have h := rwrite_c W t.kind t.n t.pos sb HSZ.out o2 o3
        rw [ebs] at h
        exact h
      rw [hsb] at t1
      have hs1 : t.s = [] → sb.toList.isEmpty = true := fun h => empty_yes (ebs.trans h)
      have hs2 : t.s ≠ [] → sb.toList.isEmpty = false := fun h => empty_no (fun h2 => h (ebs.symm.trans h2))
      have HS1 := Lib.hid hs1
      have HS2 := Lib.hid hs2
      have HQ : Hid (LX.TextAt ts k acc) := hq
      have HTK := Lib.hid htk
      clear hq hs1 hs2 hsz hsb ebs
      have k0 : (0 : Int) ≤ (k : Int) := by omega
      by_cases hk0 : t.kind = 0
      · have f0 := kT hk0
        by_cases hs : t.s = []
        · have f1 := HS1.out hs
          by_cases hn : t.n = 0
          · have f2 := kT hn
            have hr : Hid (LX.text false ts = some acc) := HQ.out.stop hkl (d := az) (by rw [HTK.out]; exact hk0) (by rw [HTK.out]; exact ⟨hs, hn⟩)
            clear hk0 hs hn HW htk
            go_wp2
            go_ret2
            exact ⟨.yes hr.out rfl rfl, hbl⟩
          · have f2 := kF hn
            have hr : Hid (LX.text false ts = none) := HQ.out.bad0 hkl (d := az) (by rw [HTK.out]; exact hk0) (by rw [HTK.out]; exact fun h => hn h.2)
            clear hk0 hs hn HW htk
            go_wp2
            go_ret2
            exact ⟨.no hr.out rfl rfl, hbl⟩
        · have f1 := HS2.out hs
          have hr : Hid (LX.text false ts = none) := HQ.out.bad0 hkl (d := az) (by rw [HTK.out]; exact hk0) (by rw [HTK.out]; exact fun h => hs h.1)
          clear hk0 hs HW htk
          go_wp2
          go_ret2
          exact ⟨.no hr.out rfl rfl, hbl⟩
      · have f0 := kF hk0
        unfold WriteE at HW
        cases hw : LX.wrt t with
        | none =>
          rw [hw] at HW
          have hr : Hid (LX.text false ts = none) := HQ.out.bad hkl (d := az) (by rw [HTK.out]; exact hk0) (by rw [HTK.out]; exact hw)
          clear hk0 hw htk
          go_wp2_with (go_at_call 26; refine (HW.out _).mono ?_; rintro e w3 ⟨⟨y, rfl⟩, hb3⟩)
          go_ret2
          exact ⟨.no hr.out rfl rfl, below_then hbl hb3⟩
        | some x =>
          rw [hw] at HW
          have hm : Hid (LX.TextAt ts (k + 1) (acc ++ ((if 0 < k then [32] else []) ++ x))) := HQ.out.more hkl (d := az) (by rw [HTK.out]; exact hk0) (by rw [HTK.out]; exact hw)
          have hx := LX.wrt_len hw
          have hacc2 := hm.out.1
          clear hk0 hw htk
          by_cases hp : 0 < k
          · rw [if_pos hp] at hm hacc2
            have hp2 : (0 : Int) < (k : Int) := by omega
            simp only [List.length_append, List.length_cons, List.length_nil] at hacc2
            go_wp2_with (go_at_call 26; refine (HW.out _).mono ?_; rintro e w3 ⟨rfl, hb3⟩)
            go_roundw
            case rel => exact ⟨k + 1, acc ++ ([32] ++ x), by omega, by go_num, congrArg Value.string ((congrArg (· ++ _) (bs_cat2 acc [32])).trans ((bs_cat2 _ _).trans (by rw [List.append_assoc]))), hm, by simp; omega, below_then hbl hb3⟩
            case measure => simp [intOf]; omega
          · obtain rfl : k = 0 := by omega
            rw [if_neg (by omega), List.nil_append] at hm hacc2
            simp only [Nat.zero_mul, Nat.add_zero] at t0 t1 t2 t3
            simp only [List.length_append] at hacc2
            go_wp2_with (go_at_call 26; refine (HW.out _).mono ?_; rintro e w3 ⟨rfl, hb3⟩)
            go_roundw
            case rel => exact ⟨1, acc ++ x, by omega, by go_num, congrArg Value.string (bs_cat2 _ _), hm, by simp; omega, below_then hbl hb3⟩
            case measure => simp [intOf]; omega
    · obtain rfl : k = len := by omega
      have hr : Hid (LX.text false ts = some acc) := hq.out.ends (by omega)
      clear hq
      go_wp2
      go_ret2
      exact ⟨.yes hr.out rfl rfl, hbl⟩
end Go.Proofs.YtpcepfoebkmbgaaDoor
