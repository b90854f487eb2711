/- Which areas are as said: the program's way. -/
import Derived.Test.YtfnkafnjpldaoaaDoorOcPh
import Derived.Test.YtfnkafnjpldaoaaDoorOcQb
import Derived.Test.YtfnkafnjpldaoaaDoorOcAr
namespace Go.Proofs.YtfnkafnjpldaoaaDoor
open Go.RowKit
set_option linter.unusedVariables false
set_option linter.unusedSimpArgs false
theorem quoteP_c (text : List UInt8) (w : World) (hs : text.length ≤ 140737488351232) :
    Calls Tryd.prog 22 #[.string ⟨text.toArray⟩] w fun e w' => e = .returned (.tuple #[.string ⟨(LX.quoteR text).1.toArray⟩, .int .i64 ((LX.quoteR text).2 : Int)]) ∧ Below w.heap.size w w' := by
  have h := Quote_c ⟨text.toArray⟩ w (by simpa [ByteArray.size] using hs)
  have e : bs ⟨text.toArray⟩ = text := by simp [bs]
  rwa [e] at h
set_option maxRecDepth 100000 in
set_option maxHeartbeats 4000000 in
theorem isAreaP_c (d : OC.Dat) (v : Value) (w : World) (hv : Rd .i64 w v d.words) (ht : d.text.length ≤ 2000) (hw : d.words.length ≤ 2000) :
    Calls Tryd.prog 38 #[.agg #[.string ⟨d.text.toArray⟩, .bool d.isText, v]] w fun e w' => e = .returned (.bool (datOk d)) ∧ Below w.heap.size w w' := by
  obtain ⟨text, isText, words⟩ := d
  dsimp only at hv ht hw
  obtain ⟨wa, wc, rfl, h1, h2⟩ := hv
  have HV : Hid (Rd .i64 w (.slice wa words.length wc) words) := ⟨wa, wc, rfl, h1, h2⟩
  clear h1 h2
  obtain ⟨wl, hwl⟩ : ∃ wl, words.length = wl := ⟨_, rfl⟩
  have HWL := Lib.hid hwl
  rw [hwl] at hw HV ⊢
  obtain ⟨R, hR⟩ : ∃ x, datOk ⟨text, isText, words⟩ = x := ⟨_, rfl⟩
  rw [hR]
  cases isText with
  | true =>
    have hr : Hid (R = (decide ((LX.quoteR text).2 = 0) && decide (wl = 0))) := by show _ = _; rw [← hR]; simp [datOk, hwl]
    obtain ⟨S, hS⟩ : ∃ S, (LX.quoteR text).1 = S := ⟨_, rfl⟩
    obtain ⟨E, hE⟩ : ∃ E, (LX.quoteR text).2 = E := ⟨_, rfl⟩
    have HQT : Hid (∀ W, Calls Tryd.prog 22 #[.string ⟨text.toArray⟩] W fun e w' => e = .returned (.tuple #[.string ⟨S.toArray⟩, .int .i64 (E : Int)]) ∧ Below W.heap.size W w') := fun W => by have h := quoteP_c text W (by omega); rwa [hS, hE] at h
    rw [hE] at hr
    clear hR hwl hS hE HV HWL
    by_cases hE0 : E = 0
    · subst hE0
      by_cases hw0 : wl = 0
      · subst hw0
        have hf : Hid (R = true) := by show _ = _; rw [hr.out]; rfl
        clear hr
        go_enter Tryd.func38, Tryd.ntmps38
        go_wp2_with (go_at_call 22; refine (HQT.out _).mono ?_; rintro e w1 ⟨rfl, hb1⟩; obtain ⟨hcc1, hff1⟩ := bcell hb1)
        all_goals go_ret
        all_goals exact ⟨by rw [hf.out]; rfl, below_then (below_alloc _ _) hb1⟩
      · have ew : ((wl : Int) == 0) = false := by simp; omega
        have hf : Hid (R = false) := by show _ = _; rw [hr.out]; simp [hw0]
        clear hr
        go_enter Tryd.func38, Tryd.ntmps38
        go_wp2_with (go_at_call 22; refine (HQT.out _).mono ?_; rintro e w1 ⟨rfl, hb1⟩; obtain ⟨hcc1, hff1⟩ := bcell hb1)
        all_goals go_ret
        all_goals exact ⟨by rw [hf.out]; rfl, below_then (below_alloc _ _) hb1⟩
    · have ee : ((E : Int) == 0) = false := by simp; omega
      have hf : Hid (R = false) := by show _ = _; rw [hr.out]; simp [hE0]
      clear hr hE0
      go_enter Tryd.func38, Tryd.ntmps38
      go_wp2_with (go_at_call 22; refine (HQT.out _).mono ?_; rintro e w1 ⟨rfl, hb1⟩; obtain ⟨hcc1, hff1⟩ := bcell hb1)
      all_goals go_ret
      all_goals exact ⟨by rw [hf.out]; rfl, below_then (below_alloc _ _) hb1⟩
  | false =>
    have hr : Hid (R = (decide (text = []) && decide (0 < wl) && words.all OC.wordOk)) := by show _ = _; rw [← hR]; simp [datOk, hwl]
    clear hR hwl
    go_enter Tryd.func38, Tryd.ntmps38
    go_wp2
    go_loop [26] (fun i => ∃ j : Nat, j ≤ wl ∧ i = .int .i64 j ∧ Hid (words.all OC.wordOk = (words.drop j).all OC.wordOk)) (fun i => wl - (intOf i).toNat)
    case atStart => exact ⟨0, Nat.zero_le _, rfl, (rfl : words.all OC.wordOk = _)⟩
    case round =>
      obtain ⟨j, hj, rfl, hwq⟩ := hrel
      by_cases hjl : j < wl
      · obtain ⟨-, wb, wo, rfl, q1⟩ := HV.out.get hjl
        have hjw : j < words.length := by rw [HWL.out]; exact hjl
        have hdw := dropAt (d := (0 : Int)) hjw
        generalize words.getD j 0 = y at *
        have hwb : wb < w.heap.size := World.block_lt_of_cell? _ _ q1
        have hwb1 : wb < w.heap.size + 1 := by omega
        have j1 : (j : Int) < (wl : Int) := by omega
        by_cases hy1 : y < -2147483648
        · have hf : Hid (R = false) := by show _ = _; rw [hr.out, hwq.out, hdw]; simp [OC.wordOk, OC.inB]; omega
          clear hdw hwq hr
          go_wp2
          all_goals go_ret
          all_goals exact ⟨by rw [hf.out]; rfl, below_alloc _ _⟩
        by_cases hy2 : 2147483647 < y
        · have hf : Hid (R = false) := by show _ = _; rw [hr.out, hwq.out, hdw]; simp [OC.wordOk, OC.inB]; omega
          clear hdw hwq hr
          go_wp2
          all_goals go_ret
          all_goals exact ⟨by rw [hf.out]; rfl, below_alloc _ _⟩
        have hwn : Hid (words.all OC.wordOk = (words.drop (j + 1)).all OC.wordOk) := by
          show _ = _
          rw [hwq.out, hdw]; simp [OC.wordOk, OC.inB]; omega
        clear hdw hwq hr
        go_wp2
        all_goals go_round
        all_goals first | (case rel => exact ⟨j + 1, by omega, by go_num, hwn⟩) | (simp [intOf]; omega)
      · obtain rfl : wl = j := by omega
        have hall : words.all OC.wordOk = true := by rw [hwq.out, List.drop_eq_nil_of_le (by rw [HWL.out]; exact Nat.le_refl _)]; rfl
        by_cases htx : text = []
        · subst htx
          by_cases hw0 : 0 < wl
          · have hf : Hid (R = true) := by show _ = _; rw [hr.out, hall]; simp [hw0]
            clear hr hwq hall
            have hw1 : (0 : Int) < (wl : Int) := by omega
            go_wp2
            all_goals go_ret
            all_goals exact ⟨by rw [hf.out]; rfl, below_alloc _ _⟩
          · have hf : Hid (R = false) := by show _ = _; rw [hr.out]; simp [hw0]
            clear hr hwq hall
            have hw1 : ¬ (0 : Int) < (wl : Int) := by omega
            go_wp2
            all_goals go_ret
            all_goals exact ⟨by rw [hf.out]; rfl, below_alloc _ _⟩
        · have hf : Hid (R = false) := by show _ = _; rw [hr.out]; simp [htx]
          have eb1 : (text == []) = false := by cases text with
            | nil => exact absurd rfl htx
            | cons c r => rfl
          have eb2 : text.isEmpty = false := by cases text with
            | nil => exact absurd rfl htx
            | cons c r => rfl
          clear hr hwq hall
          go_wp2
          all_goals go_ret
          all_goals exact ⟨by rw [hf.out]; rfl, below_alloc _ _⟩
set_option maxRecDepth 100000 in
set_option maxHeartbeats 4000000 in
theorem areAreasP_c (data : List OC.Dat) (a : Option Addr) (len cap : Nat) (w : World) (hr : RdD w (.slice a len cap) data) (hT : ∀ d ∈ data, d.text.length ≤ 2000 ∧ d.words.length ≤ 2000) :
    Calls Tryd.prog 27 #[.slice a len cap] w fun e w' => e = .returned (.bool (data.all datOk)) ∧ Below w.heap.size w w' := by
  obtain ⟨hl, hc, hm⟩ := hr.len
  have HR := Lib.hid hr
  have HL := Lib.hid hl
  have HT := Lib.hid hT
  obtain ⟨C, hC⟩ : ∃ C, data.all datOk = C := ⟨_, rfl⟩
  have HC := Lib.hid hC
  rw [hC]
  clear hr hl hC hc hT
  go_enter Tryd.func27, Tryd.ntmps27
  go_wp2
  go_loopw [7] (fun i wr => ∃ (k : Nat), k ≤ len ∧ i = .int .i64 k ∧ Hid (C = (data.drop k).all datOk) ∧ Below w.heap.size w wr) (fun i _ => len - (intOf i).toNat)
  case atStart => exact ⟨0, Nat.zero_le _, rfl, (show Hid _ from by show _ = _; rw [← HC.out]; simp), Below.refl _ _⟩
  case round =>
    clear HC
    obtain ⟨k, hk, rfl, hq, hbl⟩ := hrel
    by_cases hlt : k < len
    · obtain ⟨-, b, off, rfl, h0, h1, v, h2, h3⟩ := (show RdD wr (.slice a len cap) data from HR.out.keep fun _ _ _ h => h.keep hbl).get hlt
      have hkl : k < data.length := by rw [← HL.out]; exact hlt
      have hd := dropAt (d := OC.dz) hkl
      obtain ⟨ht1, ht2⟩ := HT.out _ (getD_map_range data OC.dz hkl)
      generalize data.getD k OC.dz = x at *
      have HIA : Hid (∀ W, Rd .i64 W v x.words → Calls Tryd.prog 38 #[.agg #[.string ⟨x.text.toArray⟩, .bool x.isText, v]] W fun e w' => e = .returned (.bool (datOk x)) ∧ Below W.heap.size W w') := fun W hW => isAreaP_c x v W hW ht1 ht2
      obtain ⟨B, hB⟩ : ∃ B, datOk x = B := ⟨_, rfl⟩
      have hQ : C = (B && (data.drop (k + 1)).all datOk) := by rw [hq.out, hd, List.all_cons, hB]
      rw [hB] at HIA
      obtain ⟨va, vc, rfl, h3b⟩ := h3
      have HV : Hid (Rd .i64 wr (.slice va x.words.length vc) x.words) := ⟨va, vc, rfl, h3b⟩
      obtain ⟨wl, hwl⟩ : ∃ n, x.words.length = n := ⟨_, rfl⟩
      rw [hwl] at HV HIA h2
      clear h3b hwl hB
      obtain ⟨text, isText, words⟩ := x
      dsimp only at h0 h1 h2 HIA HV
      have k1 : (k : Int) < (len : Int) := by omega
      have hbb : b < wr.heap.size := World.block_lt_of_cell? _ _ h0
      have hbb1 : b < wr.heap.size + 1 := by omega
      clear hd hq hkl ht1 ht2
      cases B with
      | true =>
        have hnext : Hid (C = (data.drop (k + 1)).all datOk) := by show _ = _; rw [hQ]; simp
        clear hQ
        go_wp2_with (go_at_call 38; refine (HIA.out _ (HV.out.keep (below_alloc _ _))).mono ?_; rintro e w1 ⟨rfl, hb1⟩)
        all_goals go_roundw
        all_goals first | (case rel => exact ⟨k + 1, by omega, by go_num, hnext, below_then (below_then hbl (below_alloc _ _)) hb1⟩) | (simp [intOf]; omega)
      | false =>
        have hfail : Hid (C = false) := by show _ = _; rw [hQ]; simp
        clear hQ
        go_wp2_with (go_at_call 38; refine (HIA.out _ (HV.out.keep (below_alloc _ _))).mono ?_; rintro e w1 ⟨rfl, hb1⟩)
        all_goals go_ret
        all_goals exact ⟨by rw [hfail.out]; rfl, below_then (below_then hbl (below_alloc _ _)) hb1⟩
    · obtain rfl : len = k := by omega
      have hfin : Hid (C = true) := by show _ = _; rw [hq.out, List.drop_eq_nil_of_le (by rw [← HL.out]; exact Nat.le_refl _)]; rfl
      clear hq
      go_wp2
      all_goals go_ret
      all_goals exact ⟨by rw [hfin.out]; rfl, hbl⟩
end Go.Proofs.YtfnkafnjpldaoaaDoor
