/- The statement WordBack holds: the law returns true for all its arguments, and they read behind the call as before; no condition. -/
import Derived.Test.YtmhifelkihcidaaCopy
import Derived.Test.YtmhifelkihcidaaPk
import Derived.Test.YtmhifelkihcidaaFrame
namespace Go.Proofs.Ytmhifelkihcidaa.wordBack
open Go.ChangeShapes Go.WideShapes Go.ChangeAt Go.RowKit Go.Joins WM
open Go.ChangeMaps (open_string shut_string)
set_option linter.unusedVariables false
theorem wi_small {n : Int} (hb : IsBits n) {k m : Nat} (h : wi n k < m) (hm : m ≤ 1000) : k < 140737488355328 := by
  unfold wi at h
  have h2 := nb_bd hb
  rw [Nat.div_lt_iff_lt_mul (by omega)] at h
  have : m * nb n ≤ 1000 * 4 := Nat.mul_le_mul hm h2.2
  omega
set_option maxRecDepth 100000 in
set_option maxHeartbeats 3200000 in
theorem walk (s0 : ByteArray) (a1 : Option Addr) (len1 cap1 : Nat) (z1 : List Int) (a2 : Int) (a3 : Int) (n4 : Int) (g4 : Bool) (w : World) (w0 : s0.size ≤ maxLen) (w1 : IsRow .i64 w a1 len1 cap1 z1) (w2 : (Lit.int .i64 a2).wf = true) (w3 : (Lit.int .i64 a3).wf = true) (w4 : (Lit.int .i64 n4).wf = true) :
    Calls Try.prog 12 #[.string s0, .slice a1 len1 cap1, .int .i64 a2, .int .i64 a3, .agg #[.int .i64 n4, .bool g4]] w fun e w' => e = .returned (.bool true) ∧ Below w.heap.size w w' := by
  have hfl0 : (w.alloc (.cells #[.int .i64 n4, .bool g4] 27)).cell? ⟨w.heap.size, 0, none⟩ = some (.int .i64 n4) := (World.cell?_alloc_at _ _ _ _ rfl).trans rfl
  have hfl1 : (w.alloc (.cells #[.int .i64 n4, .bool g4] 27)).cell? ⟨w.heap.size, 1, none⟩ = some (.bool g4) := (World.cell?_alloc_at _ _ _ _ rfl).trans rfl
  by_cases hb : IsBits n4
  · by_cases h255 : 255 < s0.size
    · have h255' : (255 : Int) < (s0.size : Int) := by omega
      go_enter Try.func12, Try.ntmps12
      go_wp2_with (first | (go_at_call 42; refine (refValid_yes _ _ hb _).mono ?_; rintro e W1 ⟨rfl, hb1⟩; have hfa := (hb1.cell (p := ⟨w.heap.size, 0, none⟩) (World.block_lt_of_cell? _ _ (by assumption))).trans (by assumption); have hfb := (hb1.cell (p := ⟨w.heap.size, 1, none⟩) (World.block_lt_of_cell? _ _ (by assumption))).trans (by assumption)))
      go_ret
      exact ⟨rfl, (by repeat (first | exact Below.refl _ _ | exact below_alloc _ _ | refine below_back (by assumption) ?_ | refine Below.drew ?_ | refine below_drewN ?_ _ | refine Below.alloc ?_ (by first | exact Nat.le_refl _ | (simp; done) | (simp; omega)) _))⟩
    have h255' : ¬ (255 : Int) < (s0.size : Int) := by omega
    by_cases h100 : 100 < len1
    · have h100' : (100 : Int) < (len1 : Int) := by omega
      go_enter Try.func12, Try.ntmps12
      go_wp2_with (first | (go_at_call 42; refine (refValid_yes _ _ hb _).mono ?_; rintro e W1 ⟨rfl, hb1⟩; have hfa := (hb1.cell (p := ⟨w.heap.size, 0, none⟩) (World.block_lt_of_cell? _ _ (by assumption))).trans (by assumption); have hfb := (hb1.cell (p := ⟨w.heap.size, 1, none⟩) (World.block_lt_of_cell? _ _ (by assumption))).trans (by assumption)))
      go_ret
      exact ⟨rfl, (by repeat (first | exact Below.refl _ _ | exact below_alloc _ _ | refine below_back (by assumption) ?_ | refine Below.drew ?_ | refine below_drewN ?_ _ | refine Below.alloc ?_ (by first | exact Nat.le_refl _ | (simp; done) | (simp; omega)) _))⟩
    have h100' : ¬ (100 : Int) < (len1 : Int) := by omega
    have hrd := w1.rd (by omega)
    have hl := w1.len
    have hsrc : Src .i64 w a1 len1 cap1 (z1.take len1) := by
      rcases w1 with ⟨rfl, rfl, rfl, _⟩ | ⟨x, rfl, hlc, _, hz, hc, _⟩
      · exact .inl ⟨rfl, rfl, rfl⟩
      · refine .inr ⟨x, rfl, fun j hj => ?_⟩
        rw [hc j (by omega)]
        simp [hj]
    have hi63 := wf_i64_bd w2
    have hv63 := wf_i64_bd w3
    obtain ⟨i0, hii, hz0, hz1, hz2⟩ := info_parts info_int
    have hI := Lib.hid (And.intro hii (And.intro hz0 (And.intro hz1 hz2)))
    clear w0 w1 w2 w3 w4 hii hz0 hz1 hz2
    generalize hxs : z1.take len1 = xs at *
    clear hxs
    have hnb := nb_bd hb
    have hu := unpack_packed hb g4 s0 (by omega) xs
    have hpk : ∀ w, Calls Try.prog 31 #[.string s0, .agg #[.int .i64 n4, .bool g4]] w (GivesInts2 (jn n4 g4 (pkb s0)) 0 w) := Pack_ok s0 n4 g4 hb (by omega)
    generalize jn n4 g4 (pkb s0) = py at *
    obtain ⟨hu1, hu2, hu3, hu4, hu5⟩ := hu
    have hupk : ∀ w v, Rd .i64 w v (py ++ xs) → Calls Try.prog 33 #[v, .agg #[.int .i64 n4, .bool g4]] w (GivesS2 s0 0 w) := by
      intro w v hv
      have h := Unpack_ok v (py ++ xs) n4 g4 hb (by simp; omega) (by simp; omega) (by rw [hu1]; have : py.length * nb n4 ≤ (py ++ xs).length * nb n4 := Nat.mul_le_mul (by simp) (Nat.le_refl _); omega) w hv
      rw [hu1, show ((s0.size : Int)).toNat = s0.size from rfl, hu2, str_bytes] at h
      exact h
    have hby : ∀ w v, Rd .i64 w v xs → Calls Try.prog 35 #[v, .agg #[.int .i64 n4, .bool g4]] w (GivesB2 (byt n4 g4 xs 0 (xs.length * nb n4)) 0 w) := fun w v hv => Bytes_ok v xs n4 g4 hb (by omega) w hv
    have hM4 : xs.length * nb n4 ≤ 100 * 4 := Nat.mul_le_mul (by omega) hnb.2
    have hwd : ∀ w v, Rd .u8 w v (byt n4 g4 xs 0 (xs.length * nb n4)) → Calls Try.prog 38 #[v, .agg #[.int .i64 n4, .bool g4]] w (GivesInts2 (xs.map (nm n4)) 0 w) := by
      intro w v hv
      have hbd : ∀ j, 0 ≤ (byt n4 g4 xs 0 (xs.length * nb n4)).getD j 0 ∧ (byt n4 g4 xs 0 (xs.length * nb n4)).getD j 0 ≤ 255 := by
        intro j
        by_cases hj : j < xs.length * nb n4
        · have := gb_bd n4 g4 xs (j + 0); simp [byt, hj]; simpa using this
        · rw [List.getD_eq_getElem?_getD, List.getElem?_eq_none (by rw [byt_length]; omega)]; simp
      have h := Words_ok v _ n4 g4 hb (by rw [byt_length]; omega) (by rw [byt_length]; exact Nat.mul_mod_left _ _) hbd w hv
      rw [jn_jwl hb g4 _ hbd xs.length (by rw [byt_length]; exact div_up hb _), words_back hb] at h
      exact h
    have HGP : Hid (∀ k0 k, k < xs.length * nb n4 → gb n4 g4 (pbl n4 g4 xs k0 a3) k = if k = k0 then a3 % 256 else gb n4 g4 xs k) := fun k0 k hk => gb_put hb g4 xs k0 a3 k hk
    have HPK := Lib.hid hpk
    have HUP := Lib.hid hupk
    have HBY := Lib.hid hby
    have HWD := Lib.hid hwd
    have HRD := Lib.hid hrd
    have HSR := Lib.hid hsrc
    have HPL : Hid (0 < py.length) := hu5
    have HPX : Hid (py.length + len1 ≤ 4294967296) := by show py.length + len1 ≤ 4294967296; omega
    have HP1 : Hid (py.length ≤ 1000000) := by show py.length ≤ 1000000; omega
    have HXL : Hid (xs.length = len1) := hl
    have HPYX : Hid ((py ++ xs).length ≤ 140737488355328) := by show (py ++ xs).length ≤ 140737488355328; simp; omega
    have hq1 : (py.length : Int) ≤ (s0.size : Int) / 2 + 1 := by omega
    have hq2 : (py.length : Int) ≤ (s0.size : Int).tdiv 2 + 1 := by rw [Int.tdiv_eq_ediv_of_nonneg (by omega)]; omega
    have hbll : (byt n4 g4 xs 0 (xs.length * nb n4)).length = xs.length * nb n4 := byt_length _ _ _ _ _
    have hbla : ∀ k, k < xs.length * nb n4 → (byt n4 g4 xs 0 (xs.length * nb n4)).getD k 0 = gb n4 g4 xs k := fun k hk => by simp [byt, hk]
    have hwim : ∀ k, k < xs.length * nb n4 → wi n4 k < xs.length := fun k hk => wi_lt hb hk
    generalize hby0 : byt n4 g4 xs 0 (xs.length * nb n4) = bl at *
    generalize hMM : xs.length * nb n4 = M at *
    clear hMM
    have HBLL : Hid (bl.length = M) := hbll
    have HBLA := Lib.hid hbla
    have HWIM := Lib.hid hwim
    clear hbll hbla hwim
    generalize hxm : xs.map (nm n4) = xm at *
    have HXMK : Hid (∀ k, k < len1 → xm.getD k 0 = nm n4 (xs.getD k 0)) := by
      intro k hk
      have hk2 : k < xs.length := by omega
      rw [← hxm]; simp [hk2]
    have HXML : Hid (xm.length = len1) := by show xm.length = len1; rw [← hxm, List.length_map]; exact hl
    clear hpk hupk hby hwd hrd hsrc hu1 hu2 hu3 hu4 hu5 h255 h100 hby0 hxm
    have hpy : py.length ≤ 1000000 := HP1.out
    have hd1 : decide ((255 : Int) < (s0.size : Int)) = false := decide_eq_false h255'
    have hd3 : decide ((s0.size : Int) / 2 + 1 < (py.length : Int)) = false := decide_eq_false (by omega)
    have hd2 : decide ((100 : Int) < (len1 : Int)) = false := decide_eq_false h100'
    go_enter Try.func12, Try.ntmps12
    go_wp2_with (first | (go_at_call 42; refine (refValid_yes _ _ hb _).mono ?_; rintro e W1 ⟨rfl, hb1⟩; have hfa := (hb1.cell (p := ⟨w.heap.size, 0, none⟩) (World.block_lt_of_cell? _ _ (by assumption))).trans (by assumption); have hfb := (hb1.cell (p := ⟨w.heap.size, 1, none⟩) (World.block_lt_of_cell? _ _ (by assumption))).trans (by assumption)) | (go_at_call 31; refine (HPK.out _).mono ?_; rintro e W2 ⟨v2, rfl, hr2, hb2⟩; have hfa := (hb2.cell (p := ⟨w.heap.size, 0, none⟩) (World.block_lt_of_cell? _ _ (by assumption))).trans (by assumption); have hfb := (hb2.cell (p := ⟨w.heap.size, 1, none⟩) (World.block_lt_of_cell? _ _ (by assumption))).trans (by assumption)))
    obtain ⟨b2, off2, c2, rfl, hc2, hbl2⟩ := rd_some hr2 HPL.out
    have hB2 : Below w.heap.size w W2 := (by repeat (first | exact Below.refl _ _ | exact below_alloc _ _ | refine below_back (by assumption) ?_ | refine Below.drew ?_ | refine below_drewN ?_ _ | refine Below.alloc ?_ (by first | exact Nat.le_refl _ | (simp; done) | (simp; omega)) _))
    have HB2 := Lib.hid hB2
    have HC2 : Hid (∀ i, i < py.length → W2.drew.cell? ⟨b2, off2 + i, none⟩ = some (.int .i64 (py.getD i 0))) := hc2
    have HBL2 : Hid (b2 < W2.drew.heap.size) := hbl2
    have HW2 : Hid (w.heap.size < W2.heap.size) := World.block_lt_of_cell? W2 ⟨w.heap.size, 0, none⟩ (by assumption)
    go_region_held3 (fun w' => w'.cell? ⟨w.heap.size, 0, none⟩ = some (.int .i64 n4) ∧ w'.cell? ⟨w.heap.size, 1, none⟩ = some (.bool g4))
      (first | (go_split_ands; refine ⟨?_, ?_⟩; all_goals (refine (hb5.cell (World.block_lt_of_cell? _ _ (by assumption))).trans (by assumption))) | (exact ⟨hgr4.cell HS3.out.1 HNE.out, hgr4.cell HS3.out.2 HNE.out⟩) | (go_split_ands; refine ⟨?_, ?_⟩; all_goals (refine (hb3.cell (World.block_lt_of_cell? _ _ (by assumption))).trans (by assumption))) | go_keep)
      ((first
        | (go_at_call 43; refine (CopyInts_c b2 off2 c2 py HP1.out W2.drew HC2.out HBL2.out).mono ?_; rintro e W3 ⟨v3, rfl, hown3, hb3⟩; have hB3 := HB2.out.drew.trans (hb3.mono (by simpa using HB2.out.size)); have HS3 := Lib.hid (And.intro ((hb3.cell (p := ⟨w.heap.size, 0, none⟩) HW2.out).trans hfa) ((hb3.cell (p := ⟨w.heap.size, 1, none⟩) HW2.out).trans hfb)); have HNE : Hid (some w.heap.size ≠ v3.ownBlock) := fun e => Nat.lt_irrefl _ (Nat.lt_of_lt_of_le HW2.out (hown3.lt _ e.symm).1))
        | (refine step_append_ints (w := W3) (by rfl) (.tmp 44) (.tmp 45) 37 (by rfl) W2.drew.heap.size 3 i0 .i64 8 Try.underlying37 hI.out (Nat.le_refl _) v3 py.length py (by rfl) hown3 a1 len1 cap1 xs (by rfl) HXL.out (HSR.out.keep hB3) HPX.out hb3.size ?_; intro v4 W4 hown4 hgr4)
        | (go_at_call 33; refine (HUP.out _ _ (Rd.of_owns hown4 HPYX.out)).mono ?_; rintro e W5 ⟨rfl, hb5⟩)))
    have hB5 : Below w.heap.size w W5 := ((hB3.grown hgr4 (by have := HB2.out.size; have h3 := hb3.size; simp at h3; omega) (fun kk e => Nat.le_of_lt (Nat.lt_of_lt_of_le HW2.out (hown3.lt kk e).1)))).trans (hb5.mono (by have := HB2.out.size; have h3 := hb3.size; have h4 := hgr4.size; simp at h3; omega))
    have hrd5 := HRD.out.keep hB5
    have hfa := (hb5.cell (p := ⟨w.heap.size, 0, none⟩) (World.block_lt_of_cell? _ _ (hgr4.cell HS3.out.1 HNE.out))).trans (hgr4.cell HS3.out.1 HNE.out)
    have hfb := (hb5.cell (p := ⟨w.heap.size, 1, none⟩) (World.block_lt_of_cell? _ _ (hgr4.cell HS3.out.2 HNE.out))).trans (hgr4.cell HS3.out.2 HNE.out)
    have hf50 := hB5.size
    clear hown3 hown4 hgr4 hb3 hB3 HS3 HNE hb5 HC2 HBL2 HSR HPK HUP hfl0 hfl1
    go_wp2_with (first | (go_at_call 35; refine (HBY.out _ _ hrd5).mono ?_; rintro e W6 ⟨v6, rfl, hr6, hb6⟩; have hfa := (hb6.cell (p := ⟨w.heap.size, 0, none⟩) (World.block_lt_of_cell? _ _ (by assumption))).trans (by assumption); have hfb := (hb6.cell (p := ⟨w.heap.size, 1, none⟩) (World.block_lt_of_cell? _ _ (by assumption))).trans (by assumption); have HR6 := Lib.hid hr6; obtain ⟨a6, c6, rfl, hl6, h6⟩ := hr6; clear h6 hl6; rw [HBLL.out] at HR6 ⊢) | (go_at_call 38; refine (HWD.out _ _ HR6.out).mono ?_; rintro e W7 ⟨v7, rfl, hr7, hb7⟩; have hfa := (hb7.cell (p := ⟨w.heap.size, 0, none⟩) (World.block_lt_of_cell? _ _ (by assumption))).trans (by assumption); have hfb := (hb7.cell (p := ⟨w.heap.size, 1, none⟩) (World.block_lt_of_cell? _ _ (by assumption))).trans (by assumption); obtain ⟨a7, c7, rfl, hl7, h7⟩ := hr7; clear hl7; rw [HXML.out]))
    have hrd7 := (hrd5.keep hb6).keep hb7
    have hB7 : Below w.heap.size w W7 := (hB5.trans (hb6.mono hf50)).trans (hb7.mono (Nat.le_trans hf50 hb6.size))
    have HR67 := (show Rd .u8 W6 _ _ from HR6.out).keep hb7
    have hfz : w.heap.size < W7.heap.size := World.block_lt_of_cell? W7 ⟨w.heap.size, 0, none⟩ (by assumption)
    have hg0 := hfa
    have hg1 := hfb
    have H7 := Lib.hid h7
    clear hb6 hb7 hrd5 hB5 h7 HR6 HBY HWD hq1 hq2 hd1 hd2 hd3 hpy
    go_loopw [17] (fun iv wr => ∃ k : Nat, k ≤ len1 ∧ iv = .int .i64 k ∧ Below W7.heap.size W7 wr) (fun iv _ => len1 - (intOf iv).toNat)
    case atStart => exact ⟨0, Nat.zero_le _, rfl, Below.refl _ _⟩
    case round =>
      obtain ⟨k, hk, rfl, hbq⟩ := hrel
      have c0 := (hbq.cell (p := ⟨w.heap.size, 0, none⟩) hfz).trans hg0
      have c1 := (hbq.cell (p := ⟨w.heap.size, 1, none⟩) hfz).trans hg1
      by_cases hlt : k < len1
      · obtain ⟨b1, off1, c1', hv1, hc1, hb1l⟩ := rd_some hrd7 (by have := HXL.out; omega)
        simp at hv1
        obtain ⟨rfl, hv1, rfl⟩ := hv1
        clear hv1
        rcases H7.out with h | ⟨b7, off7, rfl, hc7⟩
        · have := HXML.out; rw [h] at this; simp at this; omega
        have q1 := (hbq.cell (p := ⟨b1, off1 + k, none⟩) hb1l).trans (hc1 k (by have := HXL.out; omega))
        have q7 := (hbq.cell (p := ⟨b7, off7 + k, none⟩) (World.block_lt_of_cell? _ _ (hc7 k (by have := HXML.out; omega)))).trans (hc7 k (by have := HXML.out; omega))
        rw [HXMK.out k hlt] at q7
        generalize xs.getD k 0 = y at *
        have hk0 : (0 : Int) ≤ (k : Int) := by omega
        have hk1 : (k : Int) < (len1 : Int) := by omega
        clear hc1 hc7
        go_wp2_with fail
        go_region_held3 (fun w' => w'.cell? ⟨w.heap.size, 0, none⟩ = some (.int .i64 n4) ∧ w'.cell? ⟨b1, off1 + k, none⟩ = some (.int .i64 y) ∧ w'.cell? ⟨b7, off7 + k, none⟩ = some (.int .i64 (nm n4 y)))
          (first | go_keep)
          ((first | (go_at_call 40; refine (refWord_c _ _ hb _).mono ?_; rintro e w' ⟨rfl, rfl⟩)))
        go_wp2
        go_roundw
        case rel => exact ⟨k + 1, by omega, by go_num, hbq.drew⟩
        case measure => simp [intOf]; omega
      · obtain rfl : len1 = k := by omega
        have hrdr := hrd7.keep hbq
        have hr6r := HR67.keep hbq
        have hnr : Below w.heap.size w wr := hB7.trans (hbq.mono (Nat.le_of_lt hfz))
        have hml : xs.length ≤ 2147483647 := by have := HXL.out; omega
        clear hlt hk hrd7 HR67 hB7 hbq hg0 hg1 H7
        by_cases hneg : a2 < 0
        · go_wp2_with (first | (go_at_call 28; refine (PutByte_neg _ _ _ _ _ _ _ hb hneg _).mono ?_; rintro e W8 ⟨v8, rfl, hr8, hb8⟩) | (go_at_call 19; refine (awake_c _).mono ?_; rintro e wa ⟨rfl, hba⟩))
          go_ret
          exact ⟨rfl, hnr.trans ((below_then hb8 hba).mono (by have := hnr.size; omega))⟩
        · obtain ⟨k2, rfl⟩ := Int.eq_ofNat_of_zero_le (by omega : 0 ≤ a2)
          by_cases hout : len1 ≤ wi n4 k2
          · go_wp2_with (first | (go_at_call 28; refine (PutByte_out _ _ _ k2 _ _ _ hb (by omega) hout _).mono ?_; rintro e W8 ⟨v8, rfl, hr8, hb8⟩) | (go_at_call 19; refine (awake_c _).mono ?_; rintro e wa ⟨rfl, hba⟩))
            go_ret
            exact ⟨rfl, hnr.trans ((below_then hb8 hba).mono (by have := hnr.size; omega))⟩
          · have hwi : wi n4 k2 < xs.length := by have := HXL.out; omega
            have hk2 : k2 < 140737488355328 := wi_small hb hwi (by have := HXL.out; omega)
            obtain ⟨b1, off1, c1', hv1, hc1, hb1l⟩ := rd_some hrdr (by omega)
            simp at hv1
            obtain ⟨rfl, rfl, rfl⟩ := hv1
            have HC1 := Lib.hid hc1
            clear hc1 hout hneg
            go_wp2_with (first | (go_at_call 28; refine (PutByte_in b1 off1 _ xs k2 _ _ _ hb hk2 hwi hml _ HC1.out).mono ?_; rintro e W8 ⟨v8, rfl, hr8, hb8⟩))
            have HG := Lib.hid (HGP.out k2)
            have HYL : Hid ((pbl n4 g4 xs k2 a3).length = xs.length) := by show (pbl n4 g4 xs k2 a3).length = xs.length; simp [pbl]
            generalize pbl n4 g4 xs k2 a3 = ys at *
            obtain ⟨b8, off8, c8, rfl, hc8, hb8l⟩ := rd_some hr8 (by have := HYL.out; omega)
            have HC8 := Lib.hid hc8
            have HR8 := Lib.hid (hr6r.keep hb8)
            have hg0 := (hb8.cell (p := ⟨w.heap.size, 0, none⟩) (World.block_lt_of_cell? _ _ c0)).trans c0
            have hg1 := (hb8.cell (p := ⟨w.heap.size, 1, none⟩) (World.block_lt_of_cell? _ _ c1)).trans c1
            have hn8 : Below w.heap.size w W8 := hnr.trans (hb8.mono (by have := hnr.size; omega))
            have hf8 : w.heap.size < W8.heap.size := World.block_lt_of_cell? W8 ⟨w.heap.size, 0, none⟩ hg0
            clear hc8 hr8 hr6r hrdr hb8 c0 c1 HC1 hnr
            go_loopw [19] (fun iv wq => ∃ k : Nat, k ≤ M ∧ iv = .int .i64 k ∧ Below W8.heap.size W8 wq) (fun iv _ => M - (intOf iv).toNat)
            case atStart => exact ⟨0, Nat.zero_le _, rfl, Below.refl _ _⟩
            case round =>
              obtain ⟨k, hk, rfl, hbq⟩ := hrel
              have d0 := (hbq.cell (p := ⟨w.heap.size, 0, none⟩) hf8).trans hg0
              have d1 := (hbq.cell (p := ⟨w.heap.size, 1, none⟩) hf8).trans hg1
              by_cases hlt : k < M
              · have hwk := HWIM.out k hlt
                have q8 := (hbq.cell (p := ⟨b8, off8 + wi n4 k, none⟩) hb8l).trans (HC8.out _ (by have := HYL.out; omega))
                obtain ⟨b6, off6, c6', hv6, hc6, hb6l⟩ := rd_some HR8.out (by have := HBLL.out; omega)
                simp at hv6
                obtain ⟨rfl, hv6, rfl⟩ := hv6
                clear hv6
                have q6 := (hbq.cell (p := ⟨b6, off6 + k, none⟩) hb6l).trans (hc6 k (by have := HBLL.out; omega))
                rw [HBLA.out k hlt] at q6
                have hz := gb_bd n4 g4 xs k
                have HV := Lib.hid (HG.out k hlt)
                generalize hzz : gb n4 g4 xs k = z at *
                have hz1 : z % 256 = z := Int.emod_eq_of_lt (by omega) (by omega)
                clear hzz hc6
                have hk0 : (0 : Int) ≤ (k : Int) := by omega
                have hk1 : (k : Int) < (M : Int) := by omega
                have hwl : wi n4 k < ys.length := by have := HYL.out; omega
                have hyl : ys.length ≤ 2147483647 := by have := HYL.out; omega
                have hkb : k < 140737488355328 := by omega
                by_cases hkk : k = k2
                · subst hkk
                  have hand : bits .and .i64 a3 255 = a3 % 256 := and255 a3
                  go_wp2_with (first | (go_at_call 26; refine (GetByte_in b8 off8 c8 ys k n4 g4 hb hkb hwl hyl _ q8).mono ?_; rintro e W9 ⟨rfl, hb9⟩; rw [HV.out, if_pos rfl]; have q9 := (hb9.cell (p := ⟨b6, off6 + k, none⟩) (World.block_lt_of_cell? _ _ q6)).trans q6))
                  go_roundw
                  case rel => exact ⟨k + 1, by omega, by go_num, below_then hbq hb9⟩
                  case measure => simp [intOf]; omega
                · have hne : ((k : Int) == (k2 : Int)) = false := beq_eq_false_iff_ne.2 (by omega)
                  go_wp2_with (first | (go_at_call 26; refine (GetByte_in b8 off8 c8 ys k n4 g4 hb hkb hwl hyl _ q8).mono ?_; rintro e W9 ⟨rfl, hb9⟩; rw [HV.out, if_neg hkk]; have q9 := (hb9.cell (p := ⟨b6, off6 + k, none⟩) (World.block_lt_of_cell? _ _ q6)).trans q6))
                  go_roundw
                  case rel => exact ⟨k + 1, by omega, by go_num, below_then hbq hb9⟩
                  case measure => simp [intOf]; omega
              · obtain rfl : M = k := by omega
                go_wp2_with (first | (go_at_call 19; refine (awake_c _).mono ?_; rintro e wa ⟨rfl, hba⟩))
                go_ret
                exact ⟨rfl, (hn8.trans (hbq.mono (by omega))).trans (hba.mono (by have := hbq.size; omega))⟩
  · go_enter Try.func12, Try.ntmps12
    go_wp2_with (first | (go_at_call 42; refine (refValid_no _ _ hb _).mono ?_; rintro e W1 ⟨rfl, hb1⟩; have hfa := (hb1.cell (p := ⟨w.heap.size, 0, none⟩) (World.block_lt_of_cell? _ _ (by assumption))).trans (by assumption); have hfb := (hb1.cell (p := ⟨w.heap.size, 1, none⟩) (World.block_lt_of_cell? _ _ (by assumption))).trans (by assumption)))
    go_ret
    exact ⟨rfl, (by repeat (first | exact Below.refl _ _ | exact below_alloc _ _ | refine below_back (by assumption) ?_ | refine Below.drew ?_ | refine below_drewN ?_ _ | refine Below.alloc ?_ (by first | exact Nat.le_refl _ | (simp; done) | (simp; omega)) _))⟩

set_option maxRecDepth 100000 in
theorem lifted (os : Os) (started : os.Started) (H : Type) (enc : TypeId × Value → H) :
    ReturnsInHanded {} Try.checked os 12 .any (Rows.wordBackSpec.pre6 enc Try.prog Try.f12 Rows.wordBackRow.domain false) (Rows.wordBackSpec.post enc Try.prog Try.f12 false true false false) := by
  refine returnsInHanded_of_change (C := Try.checked) own started (by kernel_rfl) Try.func12
    (ChangeSpec.witness6 (enc := enc) (C := Try.checked) false ⟨#[], #[.string ⟨#[]⟩, .slice none 0 0, .int .i64 0, .int .i64 0, .agg #[.int .i64 0, .bool false]], []⟩ 8 (by kernel_rfl) (by kernel_rfl) (by kernel_rfl) (by kernel_rfl)) ?_
  intro W base args ds gs before hval0 hW hcnd _
  have hval : ∀ (j : Nat) t v, Try.f12.params[j]? = some t → args[j]? = some v → Value.okWide Try.prog W .any base t v := hval0
  have hW' := hW
  obtain ⟨p, q, hA0, hV, rfl, hfz, hnd⟩ := hW
  have hA : DataW.TrodAll enc Try.prog W 0 (fun _ => true) true Try.f12.params.toList args.toList ds p := hA0
  rw [Try.params12] at hA hval
  obtain ⟨v0, vs0, d0, ds0, p0, q0, hargs, rfl, rfl, h0, r0⟩ := trodAll_cons hA
  obtain ⟨v1, vs1, d1, ds1, p1, q1, rfl, rfl, rfl, h1, r1⟩ := trodAll_cons r0
  obtain ⟨v2, vs2, d2, ds2, p2, q2, rfl, rfl, rfl, h2, r2⟩ := trodAll_cons r1
  obtain ⟨v3, vs3, d3, ds3, p3, q3, rfl, rfl, rfl, h3, r3⟩ := trodAll_cons r2
  obtain ⟨v4, vs4, d4, ds4, p4, q4, rfl, rfl, rfl, h4, r4⟩ := trodAll_cons r3
  obtain ⟨rfl, rfl, rfl⟩ := trodAll_nil r4
  obtain rfl : args = #[v0, v1, v2, v3, v4] := by cases args; simp_all
  obtain ⟨rfl, rfl⟩ := trodVars_none hV
  have k0 := h0
  have lt0 : ∀ x ∈ p0, x.block < W.heap.size := by obtain ⟨m, hm⟩ := k0; exact DataW.trod_lt m _ _ _ hm
  have k1 := h1
  have lt1 : ∀ x ∈ p1, x.block < W.heap.size := by obtain ⟨m, hm⟩ := k1; exact DataW.trod_lt m _ _ _ hm
  have k2 := h2
  have lt2 : ∀ x ∈ p2, x.block < W.heap.size := by obtain ⟨m, hm⟩ := k2; exact DataW.trod_lt m _ _ _ hm
  have k3 := h3
  have lt3 : ∀ x ∈ p3, x.block < W.heap.size := by obtain ⟨m, hm⟩ := k3; exact DataW.trod_lt m _ _ _ hm
  have k4 := h4
  have lt4 : ∀ x ∈ p4, x.block < W.heap.size := by obtain ⟨m, hm⟩ := k4; exact DataW.trod_lt m _ _ _ hm
  obtain ⟨s0, rfl, rfl, rfl, w0⟩ := open_string Try.underlying9 (hval 0 9 v0 rfl rfl) h0
  obtain ⟨a1, len1, cap1, rfl⟩ := okWide_slice Try.underlying37 (hval 1 37 v1 rfl rfl)
  obtain ⟨z1, w1⟩ : ∃ zs, IsRow .i64 W a1 len1 cap1 zs := isRow_of_trod Try.underlying37 Try.underlying3 (by kernel_rfl) h1
  obtain ⟨a2, rfl, rfl, rfl, w2⟩ := open_int Try.underlying3 (hval 2 3 v2 rfl rfl) h2
  obtain ⟨a3, rfl, rfl, rfl, w3⟩ := open_int Try.underlying3 (hval 3 3 v3 rfl rfl) h3
  obtain ⟨c4a, c4b, y4a, y4b, m4, rfl, rfl, rfl, hy4a, hy4b⟩ := open_agg2 Try.underlying27 (by kernel_rfl) (by kernel_rfl) (hval 4 27 v4 rfl rfl) h4
  obtain ⟨n4, e4a, rfl, w4⟩ := DataW.trod_int Try.underlying3 hy4a
  obtain ⟨g4, e4b, rfl⟩ := DataW.trod_bool Try.underlying4 hy4b
  simp at e4a e4b
  subst e4a e4b
  clear hA0 hval0
  refine (walk s0 a1 len1 cap1 z1 a2 a3 n4 g4 W w0 w1 w2 w3 w4).mono fun e W' ⟨he, bel⟩ => ?_
  subst he
  exact ⟨_, rfl, _, _, _, [], _, [], hW', trodAll_mk1 (shut_bool Try.underlying4 _), (trodAll_cons_mk (Below.trod laidOut (by kernel_rfl) (of_decide_eq_true (by kernel_rfl)) k0 bel lt0) (trodAll_cons_mk (Below.trod laidOut (by kernel_rfl) (of_decide_eq_true (by kernel_rfl)) k1 bel lt1) (trodAll_cons_mk (Below.trod laidOut (by kernel_rfl) (of_decide_eq_true (by kernel_rfl)) k2 bel lt2) (trodAll_cons_mk (Below.trod laidOut (by kernel_rfl) (of_decide_eq_true (by kernel_rfl)) k3 bel lt3) (trodAll_cons_mk (Below.trod laidOut (by kernel_rfl) (of_decide_eq_true (by kernel_rfl)) k4 bel lt4) trodAll_mk0))))), rfl, bel.frame _, fun h => by cases h⟩

theorem over : Rows.wordBackRow.holds Try.pinned (OpenSpec.ofChange Rows.wordBackSpec) :=
  OpenClaim.holds_of_wide 12 Try.f12 rfl rfl rfl rfl rfl rfl rfl ⟨rfl, rfl, rfl, rfl, rfl⟩ rfl rfl rfl rfl rfl (by kernel_rfl) Try.func12 (by kernel_rfl)
    (of_decide_eq_true (by kernel_rfl)) (by unfold Func.isWrapper; first | (rw [if_pos (by decide +kernel)]; kernel_rfl) | (rw [if_neg (by decide +kernel)]; exact ⟨rfl, rfl⟩))
    (fun os started H enc _ => lifted os started H enc)

end Go.Proofs.Ytmhifelkihcidaa.wordBack
namespace Go.Proofs.Ytmhifelkihcidaa
theorem wordBack_holds : Rows.WordBackSaid := wordBack.over
end Go.Proofs.Ytmhifelkihcidaa
