/- Mathematics of a text on its way. No program is named here. -/
import Derived.Test.YtpcepfoebkmbgaaDoorLxTxM
import Derived.Test.YtpcepfoebkmbgaaDoorLxToks
import Derived.Test.YtpcepfoebkmbgaaDoorLxWri
import Derived.Outline
namespace Go.Proofs.YtpcepfoebkmbgaaDoor.LX
set_option linter.unusedVariables false
/-- k tokens have been written: acc -/
def TextAt (ts : List ATok) (k : Nat) (acc : Bs) : Prop := acc.length ≤ 203 * k ∧ text false ts = (text (decide (0 < k)) (ts.drop k)).map (fun r => acc ++ r)
theorem TextAt.start (ts : List ATok) : TextAt ts 0 [] := ⟨by simp, by cases h : text false ts <;> simp [h]⟩
theorem TextAt.ends {ts : List ATok} {k : Nat} {acc : Bs} (h : TextAt ts k acc) (hk : k = ts.length) : text false ts = some acc := by
  subst hk
  rw [h.2, List.drop_length]; simp [text]
theorem drop_at {ts : List ATok} {k : Nat} (hk : k < ts.length) (d : ATok) : ts.drop k = ts.getD k d :: ts.drop (k + 1) := by
  rw [List.drop_eq_getElem_cons hk]; simp [hk]
theorem TextAt.stop {ts : List ATok} {k : Nat} {acc : Bs} (h : TextAt ts k acc) (hk : k < ts.length) {d : ATok} (h0 : (ts.getD k d).kind = 0) (h1 : (ts.getD k d).s = [] ∧ (ts.getD k d).n = 0) : text false ts = some acc := by
  rw [h.2, drop_at hk d, text, if_pos h0, if_pos h1]; simp
theorem TextAt.bad0 {ts : List ATok} {k : Nat} {acc : Bs} (h : TextAt ts k acc) (hk : k < ts.length) {d : ATok} (h0 : (ts.getD k d).kind = 0) (h1 : ¬ ((ts.getD k d).s = [] ∧ (ts.getD k d).n = 0)) : text false ts = none := by
  rw [h.2, drop_at hk d, text, if_pos h0, if_neg h1]; rfl
theorem TextAt.bad {ts : List ATok} {k : Nat} {acc : Bs} (h : TextAt ts k acc) (hk : k < ts.length) {d : ATok} (h0 : (ts.getD k d).kind ≠ 0) (h1 : wrt (ts.getD k d) = none) : text false ts = none := by
  rw [h.2, drop_at hk d, text, if_neg h0, h1]; rfl
theorem TextAt.more {ts : List ATok} {k : Nat} {acc x : Bs} (h : TextAt ts k acc) (hk : k < ts.length) {d : ATok} (h0 : (ts.getD k d).kind ≠ 0) (h1 : wrt (ts.getD k d) = some x) : TextAt ts (k + 1) (acc ++ ((if 0 < k then [32] else []) ++ x)) := by
  have hx := wrt_len h1
  refine ⟨?_, ?_⟩
  · have := h.1
    simp only [List.length_append]
    split <;> simp <;> omega
  · rw [h.2, drop_at hk d, text, if_neg h0, h1]
    have e : decide (0 < k + 1) = true := by simp
    rw [e]
    simp only [Option.map_map]
    by_cases hk0 : 0 < k
    · simp only [hk0, decide_true, if_true]
      congr 1; funext r; simp
    · simp only [hk0, decide_false, if_false]
      congr 1; funext r; simp
end Go.Proofs.YtpcepfoebkmbgaaDoor.LX
namespace Go.Proofs.YtpcepfoebkmbgaaDoor
open Go.RowKit
set_option linter.unusedVariables false
def TextE (ts : List LX.ATok) (e : Ending) : Prop :=
  match LX.text false ts with
  | some x => e = .returned (.tuple #[.string ⟨x.toArray⟩, .int .i64 0])
  | none => e = .returned (.tuple #[.string ⟨#[]⟩, .int .i64 3])
theorem TextE.yes {ts : List LX.ATok} {x : LX.Bs} (h : LX.text false ts = some x) {v y : Value} (hv : v = .string ⟨x.toArray⟩) (hy : y = .int .i64 0) : TextE ts (.returned (.tuple #[v, y])) := by
  subst hv hy; unfold TextE; rw [h]
theorem TextE.no {ts : List LX.ATok} (h : LX.text false ts = none) {v y : Value} (hv : v = .string ⟨#[]⟩) (hy : y = .int .i64 3) : TextE ts (.returned (.tuple #[v, y])) := by
  subst hv hy; unfold TextE; rw [h]
theorem below_thenB {w W0 wr : World} {b : Nat} (h : Below w.heap.size w W0) (k : Below b W0 wr) (hb : w.heap.size ≤ b) : Below w.heap.size w wr := h.trans (k.mono hb)
theorem keys_below {W0 X : World} {mb b : Nat} (h : Keys W0 mb) (hb : Below b W0 X) (hz : W0.heap.size = b + 1) (hm : mb < b) : Keys X mb :=
  h.kept (row := some b) ⟨hb.os, hb.tape, hb.output, hb.size, fun i hi hne => hb.block i (by have : i ≠ b := fun e => hne (by rw [e]); omega)⟩ (by simp; omega)
theorem Tab.lt {w : World} (h : Tab w) : 0 < w.heap.size ∧ 2 < w.heap.size :=
  ⟨World.block_lt_of_cell? w _ (h.1.cell gPow 0 (by decide)), World.block_lt_of_cell? w _ h.2⟩
theorem Tab.keepB {w w' : World} {b : Nat} (h : Tab w) (hb : Below b w w') (h1 : 0 < b) (h2 : 2 < b) : Tab w' :=
  ⟨var?_below hb gPow h1 h.1, (hb.cell (p := ⟨2, 15, none⟩) h2).trans h.2⟩
theorem Bld.keep {b : Nat} {l : LX.Bs} {w w' : World} (h : Bld b l w) (hb : Below w.heap.size w w') : Bld b l w' := by
  have key : ∀ p, Lib.BuilderAt 51 5 b b p (Lib.byteCells l) w → Lib.BuilderAt 51 5 b b p (Lib.byteCells l) w' := by
    rintro p h
    have hlt := h.lt
    obtain ⟨h1, v, h2, h3, h4⟩ := h
    exact ⟨h1, v, (hb.block b hlt).trans h2, owns_below h3 hb, h4⟩
  rcases h with h | h
  · exact .inl (key _ h)
  · exact .inr (key _ h)
theorem Bld.drewN {b : Nat} {l : LX.Bs} {w : World} (h : Bld b l w) (n : Nat) : Bld b l (w.drewN n) := h
set_option maxRecDepth 100000 in
set_option maxHeartbeats 4000000 in
theorem Text_c (a : Option Addr) (len cap : Nat) (ts : List LX.ATok) (w : World) (hI : IsToks w a len cap ts) (hl : len ≤ 20000) (ht : Tab w) :
    Calls Tryd.prog 12 #[.slice a len cap] w fun e w' => TextE ts e ∧ Below w.heap.size w w' := by
  have hll := hI.1
  have HI := Lib.hid hI
  have htl := ht.lt
  have HT := Lib.hid ht
  clear hI ht
  go_enter Tryd.func12, Tryd.ntmps12
  go_wp2_with (first
    | (go_at_call 20; refine (keywords_c _).mono ?_; rintro e w1 ⟨mb, rfl, hK1, hmb1, hb1⟩; have HK1 := Lib.hid hK1; clear hK1)
    | (go_at_call 21; refine (Signs_c _).mono ?_; rintro e w2 ⟨sv, rfl, hr2, hb2⟩; obtain ⟨sva, sc, rfl, hsl, hsc⟩ := hr2; rw [show LX.signL.length = 28 from rfl] at *; obtain ⟨sb, so, rfl, hsg⟩ := hsc.resolve_left (by decide); have HSG := Lib.hid hsg; clear hsg hsl hsc))
  obtain ⟨b, hbz⟩ : ∃ b, w2.heap.size + 1 = b := ⟨_, rfl⟩
  obtain ⟨W0, hW0⟩ : ∃ W0, (w2.alloc (.cells #[.map (some mb), .slice (some ⟨sb, so, none⟩) 28 sc] 48)).alloc (.cells #[.pointer none, .slice none 0 0] 51) = W0 := ⟨_, rfl⟩
  have hb20 : Below w2.heap.size w2 W0 := by rw [← hW0]; exact below_then (below_alloc _ _) (below_alloc _ _)
  have hbw0 : Below w.heap.size w W0 := below_then hb1 (below_then hb2 hb20)
  have hwb : w.heap.size ≤ w2.heap.size := Nat.le_trans hb1.size hb2.size
  have hK0 : Keys W0 mb := (HK1.out.kept (only_of_below hb2 none) (by simp)).kept (only_of_below hb20 none) (by simp)
  have hG0 : Sgs W0 sb so := fun i hi => (hb20.cell (p := ⟨sb, so + i, none⟩) (World.block_lt_of_cell? _ _ (HSG.out i hi))).trans (HSG.out i hi)
  have hT0 : Tab W0 := HT.out.keep hbw0
  have hI0 : IsToks W0 a len cap ts := HI.out.keep hbw0
  have hmbl : mb < b := by have h2 : mb < w1.heap.size := World.ownsMap.lt HK1.out; have := hb2.size; omega
  have hsbl : sb < b := by have := World.block_lt_of_cell? w2 ⟨sb, so + 0, none⟩ (HSG.out 0 (by omega)); simp at this; omega
  have hB0 : Bld b [] W0 := by
    rw [← hW0, ← hbz]
    have := Bld.fresh (w2.alloc (.cells #[.map (some mb), .slice (some ⟨sb, so, none⟩) 28 sc] 48))
    simpa using this
  have hc0 : W0.cell? ⟨w2.heap.size, 0, none⟩ = some (.map (some mb)) ∧ W0.cell? ⟨w2.heap.size, 1, none⟩ = some (.slice (some ⟨sb, so, none⟩) 28 sc) := by
    rw [← hW0]; exact ⟨by simp, by simp⟩
  have hz0 : W0.heap.size = b + 1 := by rw [← hW0, ← hbz]; simp
  have hla : len = 0 ∨ ∃ lb off, a = some ⟨lb, off, none⟩ ∧ lb < w.heap.size := by
    rcases HI.out.2.2.2.2 with h | ⟨lb, off, h, hc⟩
    · exact .inl (by have := HI.out.2.1; omega)
    · rcases Nat.eq_zero_or_pos len with h0 | h0
      · exact .inl h0
      · exact .inr ⟨lb, off, h, by have := World.block_lt_of_cell? w _ (hc 0 h0).1; simpa using this⟩
  obtain ⟨wb, hwbz⟩ : ∃ wb, w2.heap.size = wb := ⟨_, rfl⟩
  rw [hwbz] at hc0 hwb hb20 hbz ⊢
  rw [hW0]
  rw [hbz]
  have HK := Lib.hid hK0
  have HG := Lib.hid hG0
  have HT0 := Lib.hid hT0
  have HI0 := Lib.hid hI0
  have HC0 := Lib.hid hc0
  have HB0 := Lib.hid hB0
  have HZ0 := Lib.hid hz0
  have HBW := Lib.hid hbw0
  have HLA := Lib.hid hla
  have hwbb : wb < b := by omega
  have hwb2 : w.heap.size ≤ wb := hwb
  clear hb20 hbw0 hK0 hG0 hT0 hI0 hW0 hB0 hc0 hz0 HK1 HSG HI HT hb1 hb2 hwbz hbz hmb1 hla
  go_loopw [15] (fun i wr => ∃ (k : Nat) (acc : LX.Bs), k ≤ len ∧ i = .int .i64 k ∧ Hid (LX.TextAt ts k acc) ∧ acc.length ≤ 4060000 ∧ Bld b acc wr ∧ Below b W0 wr ∧ b < wr.heap.size) (fun i _ => len - (intOf i).toNat)
  case atStart => exact ⟨0, [], Nat.zero_le _, rfl, LX.TextAt.start ts, by simp, HB0.out, Below.refl _ _, by have := HZ0.out; omega⟩
  case round =>
    obtain ⟨k, acc, hk, rfl, hq, hacc, hB, hbl, hblt⟩ := hrel
    have hfin : Below w.heap.size w wr := below_thenB HBW.out hbl (by omega)
    by_cases hlt : k < len
    · have hkl : k < ts.length := by omega
      obtain ⟨lb, off, rfl, hlb⟩ := HLA.out.resolve_left (by omega)
      obtain ⟨t, htk⟩ : ∃ t, ts.getD k az = t := ⟨_, rfl⟩
      have htc : TokCells wr lb (off + k * 4) t := by
        rcases HI0.out.2.2.2.2 with h | ⟨lb', off', h, hc⟩
        · have := HI0.out.2.1; omega
        · injection h with h
          injection h with h1 h2
          subst h1 h2
          have := hc k hlt
          rw [htk] at this
          exact ⟨(hbl.cell (p := ⟨lb, off + k * 4, none⟩) (by show lb < b; omega)).trans this.1, (hbl.cell (p := ⟨lb, off + k * 4 + 1, none⟩) (by show lb < b; omega)).trans this.2.1, (hbl.cell (p := ⟨lb, off + k * 4 + 2, none⟩) (by show lb < b; omega)).trans this.2.2.1, (hbl.cell (p := ⟨lb, off + k * 4 + 3, none⟩) (by show lb < b; omega)).trans this.2.2.2⟩
      have hok : okTok t := by
        refine HI0.out.2.2.2.1 t ?_
        rw [← htk, List.getD_eq_getElem?_getD, List.getElem?_eq_getElem hkl]; exact List.getElem_mem hkl
      obtain ⟨t0, t1, t2, t3⟩ := htc
      obtain ⟨o1, o2, o3⟩ := hok
      have u0 : wr.cell? ⟨wb, 0, none⟩ = some (.map (some mb)) := (hbl.cell (p := ⟨wb, 0, none⟩) hwbb).trans HC0.out.1
      have u1 : wr.cell? ⟨wb, 1, none⟩ = some (.slice (some ⟨sb, so, none⟩) 28 sc) := (hbl.cell (p := ⟨wb, 1, none⟩) hwbb).trans HC0.out.2
      have u0' : ∀ o, (wr.alloc o).cell? ⟨wb, 0, none⟩ = some (.map (some mb)) := fun o => ((below_alloc wr o).cell (p := ⟨wb, 0, none⟩) (by show wb < _; omega)).trans u0
      have u1' : ∀ o, (wr.alloc o).cell? ⟨wb, 1, none⟩ = some (.slice (some ⟨sb, so, none⟩) 28 sc) := fun o => ((below_alloc wr o).cell (p := ⟨wb, 1, none⟩) (by show wb < _; omega)).trans u1
      have hsz : (⟨t.s.toArray⟩ : ByteArray).size ≤ 140737488351232 := by simpa [ByteArray.size] using o1
      obtain ⟨X, hX⟩ : ∃ X, wr.alloc (.cells #[.int .i64 t.kind, .string ⟨t.s.toArray⟩, .int .i64 t.n, .int .i64 t.pos] 32) = X := ⟨_, rfl⟩
      have hbx : Below b W0 X := by rw [← hX]; exact hbl.trans ((below_alloc wr _).mono (Nat.le_of_lt hblt))
      have hKX : Keys X mb := keys_below HK.out hbx HZ0.out hmbl
      have hGX : Sgs X sb so := fun i hi => (hbx.cell (p := ⟨sb, so + i, none⟩) hsbl).trans (HG.out i hi)
      have hTX : Tab X := by rw [← hX]; exact (HT0.out.keepB hbl (by omega) (by omega)).keep (below_alloc _ _)
      have hBx : Bld b acc X := by rw [← hX]; exact hB.keep (below_alloc _ _)
      have HBX := Lib.hid hBx
      have HTX := Lib.hid hTX
      have HKX := Lib.hid hKX
      have HGX := Lib.hid hGX
      have hxz : X.heap.size = wr.heap.size + 1 := by rw [← hX]; simp
      have HXZ := Lib.hid hxz
      have HW : Hid (t.kind ≠ 0 → Calls Tryd.prog 22 #[.agg #[.map (some mb), .slice (some ⟨sb, so, none⟩) 28 sc], .agg #[.int .i64 t.kind, .string ⟨t.s.toArray⟩, .int .i64 t.n, .int .i64 t.pos]] X fun e w' => WriteE t e ∧ Below X.heap.size X w') := fun h0 => write_c X mb sb so sc HKX.out HGX.out HTX.out t.kind t.n t.pos ⟨t.s.toArray⟩ hsz o2 o3 h0
      have HE : Hid (t.kind = 0 → Calls Tryd.prog 22 #[.agg #[.map (some mb), .slice (some ⟨sb, so, none⟩) 28 sc], .agg #[.int .i64 t.kind, .string ⟨t.s.toArray⟩, .int .i64 t.n, .int .i64 t.pos]] X fun e w' => e = .returned (.tuple #[.string ⟨#[]⟩, .bool (decide (t.s = [] ∧ t.n = 0))]) ∧ Below X.heap.size X w') := fun h0 => write_end X mb sb so sc t.kind t.n t.pos ⟨t.s.toArray⟩ hsz h0
      have HQ : Hid (LX.TextAt ts k acc) := hq
      rw [← hX] at HW HE
      have hbx2 : Below wr.heap.size wr X := by rw [← hX]; exact below_alloc _ _
      have HBX2 := Lib.hid hbx2
      rw [← hX] at HBX2 HBX HXZ
      have HTK := Lib.hid htk
      clear hX hxz hBx hTX hKX hGX hbx hbx2 hq hsz
      have k0 : (0 : Int) ≤ (k : Int) := by omega
      by_cases hk0 : t.kind = 0
      · have f0 := kT hk0
        have HE2 := Lib.hid (HE.out hk0)
        by_cases hz : t.s = [] ∧ t.n = 0
        · rw [show decide (t.s = [] ∧ t.n = 0) = true from by simp [hz]] at HE2
          have hr : Hid (LX.text false ts = some acc) := HQ.out.stop hkl (d := az) (by rw [HTK.out]; exact hk0) (by rw [HTK.out]; exact hz)
          clear hk0 hz HW HE
          go_wp2_with (first
            | (go_at_call 22; refine (HE2.out).mono ?_; rintro e w3 ⟨rfl, hb3⟩; have r0 : w3.cell? ⟨wr.heap.size, 0, none⟩ = some (.int .i64 t.kind) := (hb3.cell (p := ⟨wr.heap.size, 0, none⟩) (by simp)).trans (by simp))
            | (go_at_call 25; refine (String_c b acc _ (HBX.out.keep hb3)).mono ?_; rintro e w4 ⟨rfl, hb4⟩))
          go_ret2
          exact ⟨.yes hr.out rfl rfl, below_thenB (below_then hfin (below_then HBX2.out hb3)) hb4 (by omega)⟩
        · rw [show decide (t.s = [] ∧ t.n = 0) = false from by simpa using hz] at HE2
          have hr : Hid (LX.text false ts = none) := HQ.out.bad0 hkl (d := az) (by rw [HTK.out]; exact hk0) (by rw [HTK.out]; exact hz)
          clear hk0 hz HW HE
          go_wp2_with (first
            | (go_at_call 22; refine (HE2.out).mono ?_; rintro e w3 ⟨rfl, hb3⟩; have r0 : w3.cell? ⟨wr.heap.size, 0, none⟩ = some (.int .i64 t.kind) := (hb3.cell (p := ⟨wr.heap.size, 0, none⟩) (by simp)).trans (by simp)))
          go_ret2
          exact ⟨.no hr.out rfl rfl, below_then hfin (below_then HBX2.out hb3)⟩
      · have f0 := kF hk0
        have HW2 := Lib.hid (HW.out hk0)
        unfold WriteE at HW2
        cases hw : LX.wrt t with
        | none =>
          rw [hw] at HW2
          have hr : Hid (LX.text false ts = none) := HQ.out.bad hkl (d := az) (by rw [HTK.out]; exact hk0) (by rw [HTK.out]; exact hw)
          clear hk0 hw HW HE
          go_wp2_with (first
            | (go_at_call 22; refine (HW2.out).mono ?_; rintro e w3 ⟨⟨y, rfl⟩, hb3⟩; have r0 : w3.cell? ⟨wr.heap.size, 0, none⟩ = some (.int .i64 t.kind) := (hb3.cell (p := ⟨wr.heap.size, 0, none⟩) (by simp)).trans (by simp)))
          go_ret2
          exact ⟨.no hr.out rfl rfl, below_then hfin (below_then HBX2.out hb3)⟩
        | some x =>
          rw [hw] at HW2
          have hm : Hid (LX.TextAt ts (k + 1) (acc ++ ((if 0 < k then [32] else []) ++ x))) := HQ.out.more hkl (d := az) (by rw [HTK.out]; exact hk0) (by rw [HTK.out]; exact hw)
          have hx := LX.wrt_len hw
          have hacc2 := hm.out.1
          clear hk0 hw HW HE
          by_cases hp : 0 < k
          · rw [if_pos hp] at hm hacc2
            have hp2 : (0 : Int) < (k : Int) := by omega
            simp only [List.length_append, List.length_cons, List.length_nil] at hacc2
            go_wp2_with (first
              | (go_at_call 22; refine (HW2.out).mono ?_; rintro e w3 ⟨rfl, hb3⟩; have r0 : w3.cell? ⟨wr.heap.size, 0, none⟩ = some (.int .i64 t.kind) := (hb3.cell (p := ⟨wr.heap.size, 0, none⟩) (by simp)).trans (by simp))
              | (go_at_call 23; refine (WriteByte_c b acc 32 32 rfl _ (HBX.out.keep hb3) (by omega)).mono ?_; rintro e w4 ⟨rfl, hB4, hb4⟩; have HB4 := Lib.hid hB4; clear hB4)
              | (go_at_call 24; refine (WriteString_c b (acc ++ [32]) x _ HB4.out (by simp; omega) (by omega)).mono ?_; rintro e w5 ⟨⟨n5, rfl⟩, hB5, hb5⟩; have HB5 := Lib.hid hB5; clear hB5))
            go_roundw
            case rel => exact ⟨k + 1, acc ++ ([32] ++ x), by omega, by go_num, hm, by simp; omega, by have h := HB5.out; rwa [List.append_assoc] at h, (hbl.trans ((below_then HBX2.out hb3).mono (Nat.le_of_lt hblt))).trans (hb4.trans hb5), by have := HBX2.out.size; have := hb3.size; have := hb4.size; have := hb5.size; omega⟩
            case measure => simp [intOf]; omega
          · obtain rfl : k = 0 := by omega
            rw [if_neg (by omega), List.nil_append] at hm hacc2
            simp only [Nat.zero_mul, Nat.add_zero] at t0 t1 t2 t3
            simp only [List.length_append] at hacc2
            go_wp2_with (first
              | (go_at_call 22; refine (HW2.out).mono ?_; rintro e w3 ⟨rfl, hb3⟩; have r0 : w3.cell? ⟨wr.heap.size, 0, none⟩ = some (.int .i64 t.kind) := (hb3.cell (p := ⟨wr.heap.size, 0, none⟩) (by simp)).trans (by simp))
              | (go_at_call 24; refine (WriteString_c b acc x _ (HBX.out.keep hb3) (by omega) (by omega)).mono ?_; rintro e w5 ⟨⟨n5, rfl⟩, hB5, hb5⟩; have HB5 := Lib.hid hB5; clear hB5))
            go_roundw
            case rel => exact ⟨1, acc ++ x, by omega, by go_num, hm, by simp; omega, HB5.out, (hbl.trans ((below_then HBX2.out hb3).mono (Nat.le_of_lt hblt))).trans hb5, by have := HBX2.out.size; have := hb3.size; have := hb5.size; omega⟩
            case measure => simp [intOf]; omega
    · obtain rfl : k = len := by omega
      have hr : Hid (LX.text false ts = some acc) := hq.out.ends (by omega)
      have HB := Lib.hid hB
      clear hB hq
      go_wp2_with (go_at_call 25; refine (String_c b acc _ HB.out).mono ?_; rintro e w4 ⟨rfl, hb4⟩)
      go_ret2
      exact ⟨.yes hr.out rfl rfl, below_thenB hfin hb4 (by omega)⟩
end Go.Proofs.YtpcepfoebkmbgaaDoor
