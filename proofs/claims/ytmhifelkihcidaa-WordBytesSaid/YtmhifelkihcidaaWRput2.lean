/- PutByte of the reference by its contract. -/
import Derived.Test.YtmhifelkihcidaaWRput
namespace Go.Proofs.Ytmhifelkihcidaa
open Go.RowKit WM
set_option linter.unusedVariables false

theorem pbl_at (n : Int) (g : Bool) (xs : List Int) (k : Nat) (v : Int) (j : Nat) (hj : j < xs.length) :
    (pbl n g xs k v).take (j + 1) = (pbl n g xs k v).take j ++ [if j = wi n k then nm n (pw1 (xs.getD (wi n k) 0) v (ws n g k)) else nm n (xs.getD j 0)] := by
  have hl : j < (pbl n g xs k v).length := by simpa [pbl] using hj
  rw [List.take_succ_eq_append_getElem hl]
  congr 2
  simp only [pbl, List.getElem_map, List.getElem_set]
  by_cases h : wi n k = j
  · rw [if_pos h, if_pos h.symm]
  · rw [if_neg h, if_neg (fun e => h e.symm)]; simp [hj]
theorem set_bd {l : List Int} (h : ∀ j, 0 ≤ l.getD j 0 ∧ l.getD j 0 ≤ 255) (q : Nat) {c : Int} (hc : 0 ≤ c ∧ c ≤ 255) (j : Nat) : 0 ≤ (l.set q c).getD j 0 ∧ (l.set q c).getD j 0 ≤ 255 := by
  have hj := h j
  simp only [List.getD_eq_getElem?_getD, List.getElem?_set] at hj ⊢
  by_cases e : q = j
  · rw [if_pos e]
    by_cases k : j < l.length
    · rw [if_pos (by omega)]; exact hc
    · rw [if_neg (by omega)]; simp
  · rw [if_neg e]; exact hj
theorem Rd.drew {k : IntKind} {w : World} {v : Value} {xs : List Int} (h : Rd k w v xs) : Rd k w.drew v xs := h
set_option maxHeartbeats 400000 in
theorem refPutByte_form (a : Option Addr) (len cap : Nat) (i v n : Int) (g : Bool) (hb : ¬ IsBits n) (w : World) :
    Calls Try.prog 29 #[.slice a len cap, .int .i64 (i), .int .i64 (v), .agg #[.int .i64 n, .bool g]] w (GivesInts2 [] 3 w) := by
  go_enter Try.func29, Try.ntmps29
  go_wp2_with (first | (go_at_call 42; refine (refValid_no _ _ hb _).mono ?_; rintro e w1 ⟨rfl, hb1⟩))
  go_ret2
  exact ⟨_, rfl, Rd.nil _ _, (by repeat (first | exact Below.refl _ _ | exact below_alloc _ _ | refine below_back (by assumption) ?_ | refine Below.drew ?_ | refine below_drewN ?_ _ | refine Below.alloc ?_ (by first | exact Nat.le_refl _ | (simp; done) | (simp; omega)) _))⟩
set_option maxHeartbeats 400000 in
theorem refPutByte_neg (a : Option Addr) (len cap : Nat) (i v n : Int) (g : Bool) (hb : IsBits n) (hi : i < 0) (w : World) :
    Calls Try.prog 29 #[.slice a len cap, .int .i64 (i), .int .i64 (v), .agg #[.int .i64 n, .bool g]] w (GivesInts2 [] 1 w) := by
  go_enter Try.func29, Try.ntmps29
  go_wp2_with (first | (go_at_call 42; refine (refValid_yes _ _ hb _).mono ?_; rintro e w1 ⟨rfl, hb1⟩; have hf0 : w1.cell? ⟨w.heap.size, 0, none⟩ = some (.int .i64 n) := (hb1.cell (p := ⟨w.heap.size, 0, none⟩) (by simp)).trans ((World.cell?_alloc_at _ _ _ _ rfl).trans rfl); have hf1 : w1.cell? ⟨w.heap.size, 1, none⟩ = some (.bool g) := (hb1.cell (p := ⟨w.heap.size, 1, none⟩) (by simp)).trans ((World.cell?_alloc_at _ _ _ _ rfl).trans rfl)) | (go_at_call 60; refine (refsize_c _ _ hb _).mono ?_; rintro e w2 ⟨rfl, hb2⟩; have hg0 : w2.cell? ⟨w.heap.size, 0, none⟩ = some (.int .i64 n) := (hb2.cell (p := ⟨w.heap.size, 0, none⟩) (World.block_lt_of_cell? _ _ hf0)).trans hf0; have hg1 : w2.cell? ⟨w.heap.size, 1, none⟩ = some (.bool g) := (hb2.cell (p := ⟨w.heap.size, 1, none⟩) (World.block_lt_of_cell? _ _ hf1)).trans hf1))
  go_ret2
  exact ⟨_, rfl, Rd.nil _ _, (by repeat (first | exact Below.refl _ _ | exact below_alloc _ _ | refine below_back (by assumption) ?_ | refine Below.drew ?_ | refine below_drewN ?_ _ | refine Below.alloc ?_ (by first | exact Nat.le_refl _ | (simp; done) | (simp; omega)) _))⟩
set_option maxHeartbeats 400000 in
theorem refPutByte_out (a : Option Addr) (len cap : Nat) (k : Nat) (v n : Int) (g : Bool) (hb : IsBits n) (hk : k ≤ 9223372036854775807) (hi : len ≤ wi n k) (w : World) :
    Calls Try.prog 29 #[.slice a len cap, .int .i64 (k), .int .i64 (v), .agg #[.int .i64 n, .bool g]] w (GivesInts2 [] 1 w) := by
  have hnb := nb_bd hb
  have hq : (len : Int) ≤ (k : Int) / (nb n : Int) := by
    rw [← Int.natCast_ediv]; show ((len : Int) ≤ ((wi n k : Nat) : Int)); omega
  have hk0 : ¬ (k : Int) < 0 := by omega
  have hd := div_nb hb hk
  have hw : wrap64 ((k : Int) / (nb n : Int)) = (k : Int) / (nb n : Int) := IntWalk.wrap64_in _ ⟨by omega, by omega⟩
  clear hi hk
  go_enter Try.func29, Try.ntmps29
  go_wp2_with (first | (go_at_call 42; refine (refValid_yes _ _ hb _).mono ?_; rintro e w1 ⟨rfl, hb1⟩; have hf0 : w1.cell? ⟨w.heap.size, 0, none⟩ = some (.int .i64 n) := (hb1.cell (p := ⟨w.heap.size, 0, none⟩) (by simp)).trans ((World.cell?_alloc_at _ _ _ _ rfl).trans rfl); have hf1 : w1.cell? ⟨w.heap.size, 1, none⟩ = some (.bool g) := (hb1.cell (p := ⟨w.heap.size, 1, none⟩) (by simp)).trans ((World.cell?_alloc_at _ _ _ _ rfl).trans rfl)) | (go_at_call 60; refine (refsize_c _ _ hb _).mono ?_; rintro e w2 ⟨rfl, hb2⟩; have hg0 : w2.cell? ⟨w.heap.size, 0, none⟩ = some (.int .i64 n) := (hb2.cell (p := ⟨w.heap.size, 0, none⟩) (World.block_lt_of_cell? _ _ hf0)).trans hf0; have hg1 : w2.cell? ⟨w.heap.size, 1, none⟩ = some (.bool g) := (hb2.cell (p := ⟨w.heap.size, 1, none⟩) (World.block_lt_of_cell? _ _ hf1)).trans hf1))
  go_ret2
  exact ⟨_, rfl, Rd.nil _ _, (by repeat (first | exact Below.refl _ _ | exact below_alloc _ _ | refine below_back (by assumption) ?_ | refine Below.drew ?_ | refine below_drewN ?_ _ | refine Below.alloc ?_ (by first | exact Nat.le_refl _ | (simp; done) | (simp; omega)) _))⟩
set_option maxHeartbeats 3200000 in
theorem refPutByte_in (b off cap : Nat) (xs : List Int) (k : Nat) (v n : Int) (g : Bool) (hb : IsBits n) (hk : k < 140737488355328) (hi : wi n k < xs.length) (hm : xs.length ≤ 2147483647) (w : World) (hc : ∀ i, i < xs.length → w.cell? ⟨b, off + i, none⟩ = some (.int .i64 (xs.getD i 0))) :
    Calls Try.prog 29 #[.slice (some ⟨b, off, none⟩) xs.length cap, .int .i64 (k), .int .i64 (v), .agg #[.int .i64 n, .bool g]] w (GivesInts2 (pbl n g xs k v) 0 w) := by
  obtain ⟨i0, hii, hz0, hz1, hz2⟩ := info_parts info_int
  have hI := Lib.hid (And.intro hii (And.intro hz0 (And.intro hz1 hz2)))
  have hbB := World.block_lt_of_cell? w _ (hc _ hi)
  have hnb := nb_bd hb
  obtain ⟨m, hmx⟩ : ∃ m, m = xs.length := ⟨_, rfl⟩
  have HNEXT : Hid (∀ j, j < m → (pbl n g xs k v).take (j + 1) = (pbl n g xs k v).take j ++ [if j = wi n k then nm n (pw1 (xs.getD (wi n k) 0) v (ws n g k)) else nm n (xs.getD j 0)]) := fun j hj => pbl_at n g xs k v j (by omega)
  have HLEN : Hid ((pbl n g xs k v).length = m) := by show (pbl n g xs k v).length = m; rw [hmx]; simp [pbl]
  rw [← hmx] at hi hm hc ⊢
  have HM : Hid (m = xs.length) := hmx
  have HC : Hid (∀ i, i < m → w.cell? ⟨b, off + i, none⟩ = some (.int .i64 (xs.getD i 0))) := hc
  clear hmx hc hii hz0 hz1 hz2
  have hk0 : ¬ (k : Int) < 0 := by omega
  have hw : (k : Int) / (nb n : Int) = ((wi n k : Nat) : Int) := by rw [← Int.natCast_ediv]; rfl
  have hr : (k : Int) % (nb n : Int) = ((k % nb n : Nat) : Int) := by rw [← Int.natCast_emod]
  have hw1 : (k : Int).tdiv (nb n : Int) = ((wi n k : Nat) : Int) := by rw [Int.tdiv_eq_ediv_of_nonneg (by omega)]; exact hw
  have hw2 : IntKind.i64.wrap ((wi n k : Nat) : Int) = ((wi n k : Nat) : Int) := IntWalk.i64_in _ ⟨by omega, by omega⟩
  have hr1 : (k : Int).tmod (nb n : Int) = ((k % nb n : Nat) : Int) := by rw [Int.tmod_eq_emod_of_nonneg (by omega)]; exact hr
  have hml : k % nb n < nb n := Nat.mod_lt _ (by omega)
  have HWS : Hid (ws n g k = 8 * wpos n g (k % nb n)) := rfl
  generalize hqq : k % nb n = q at *
  clear hqq
  have hnb0 : ¬ nb n = 0 := by omega
  have hq : decide ((m : Int) ≤ (wi n k : Int)) = false := decide_eq_false (by omega)
  have hq2 : decide (m ≤ wi n k) = false := decide_eq_false (by omega)
  have hk2 : decide ((k : Int) < 0) = false := decide_eq_false (by omega)
  go_enter Try.func29, Try.ntmps29
  go_wp2_with (first | (go_at_call 42; refine (refValid_yes _ _ hb _).mono ?_; rintro e w1 ⟨rfl, hb1⟩; have hf0 : w1.cell? ⟨w.heap.size, 0, none⟩ = some (.int .i64 n) := (hb1.cell (p := ⟨w.heap.size, 0, none⟩) (by simp)).trans ((World.cell?_alloc_at _ _ _ _ rfl).trans rfl); have hf1 : w1.cell? ⟨w.heap.size, 1, none⟩ = some (.bool g) := (hb1.cell (p := ⟨w.heap.size, 1, none⟩) (by simp)).trans ((World.cell?_alloc_at _ _ _ _ rfl).trans rfl)) | (go_at_call 60; refine (refsize_c _ _ hb _).mono ?_; rintro e w2 ⟨rfl, hb2⟩; have hg0 : w2.cell? ⟨w.heap.size, 0, none⟩ = some (.int .i64 n) := (hb2.cell (p := ⟨w.heap.size, 0, none⟩) (World.block_lt_of_cell? _ _ hf0)).trans hf0; have hg1 : w2.cell? ⟨w.heap.size, 1, none⟩ = some (.bool g) := (hb2.cell (p := ⟨w.heap.size, 1, none⟩) (World.block_lt_of_cell? _ _ hf1)).trans hf1))
  have h2 : Below w.heap.size w w2 := (by repeat (first | exact Below.refl _ _ | exact below_alloc _ _ | refine below_back (by assumption) ?_ | refine Below.drew ?_ | refine below_drewN ?_ _ | refine Below.alloc ?_ (by first | exact Nat.le_refl _ | (simp; done) | (simp; omega)) _))
  have hs1 : w.heap.size < w2.heap.size := by have := hb1.size; have h2 := hb2.size; simp at this; omega
  clear hb1 hb2 hf0 hf1
  go_loopw [11, 12] (fun vo i wr => ∃ j : Nat, j ≤ m ∧ i = .int .i64 j ∧ wr.ownsRow (w.heap.size + 1) 3 1 vo j (((pbl n g xs k v).take j).map (.int .i64)) ∧ wr.cell? ⟨w.heap.size, 0, none⟩ = some (.int .i64 n) ∧ wr.cell? ⟨w.heap.size, 1, none⟩ = some (.bool g) ∧ Below w.heap.size w wr ∧ w.heap.size < wr.heap.size) (fun _ i _ => m - (intOf i).toNat)
  case atStart => exact ⟨0, Nat.zero_le _, rfl, World.ownsRow_nil _ _ _ _, hg0, hg1, h2, hs1⟩
  case round =>
    obtain ⟨j, hj, rfl, hownr, hr0, hr1, hnx, hsz⟩ := hrel
    clear h2 hg0 hg1 hs1
    by_cases hlt : j < m
    · have q1 := (hnx.cell (p := ⟨b, off + j, none⟩) hbB).trans (HC.out j hlt)
      have hj0 : (0 : Int) ≤ (j : Int) := by omega
      have hj1 : (j : Int) < (m : Int) := by omega
      generalize hx : xs.getD j 0 = x at *
      have HX := Lib.hid hx
      clear hx
      go_wp2_with fail
      go_region_held3 (fun w' => w'.cell? ⟨w.heap.size, 0, none⟩ = some (.int .i64 n) ∧ w'.cell? ⟨w.heap.size, 1, none⟩ = some (.bool g) ∧ w'.cell? ⟨b, off + j, none⟩ = some (.int .i64 x))
        (first | (go_split_ands; refine ⟨?_, ?_, ?_⟩; all_goals (refine (hb3.cell (World.block_lt_of_cell? _ _ (by assumption))).trans (by assumption))) | go_keep)
        ((first | (go_at_call 61; refine (split_c _ _ _ hb _).mono ?_; rintro e w3 ⟨b3, rfl, hb3le, hown3, hb3⟩)))
      have hnx3 : Below w.heap.size w w3 := (hnx.drew).trans (hb3.mono (by show w.heap.size ≤ wr.heap.size; omega))
      have hfin := HNEXT.out j hlt
      have hsp3 : b3 < w3.heap.size := (hown3.lt b3 rfl).2
      have hob := hownr.lt
      have hownk := own_keep (w := wr.drew) hownr.drew hb3
      have hbw : w.heap.size < b3 := by have : wr.heap.size ≤ b3 := hb3le; omega
      have hsz3 : w.heap.size < w3.heap.size := by omega
      have h30 := (hb3.cell (p := ⟨w.heap.size, 0, none⟩) (by show w.heap.size < wr.heap.size; omega)).trans hr0
      have h31 := (hb3.cell (p := ⟨w.heap.size, 1, none⟩) (by show w.heap.size < wr.heap.size; omega)).trans hr1
      have HFIN := Lib.hid hfin
      clear hfin hownr hr0 hr1 q1 hnx hb3
      by_cases hjw : j = wi n k
      · subst hjw
        have hu1 : (un 16 v).tmod 256 = v % 256 := by rw [Int.tmod_eq_emod_of_nonneg (un_bd (Or.inl rfl) v).1]; show v % 65536 % 256 = _; omega
        have hu2 : un 16 v % 256 = v % 256 := by show v % 65536 % 256 = _; omega
        have qc := own_cell hown3 q hml
        have qf := hown3.frozenAt q
        have hset := setAt_own hown3 q (v % 256)
        have hgs := (hown3.stored q (.int .i64 (v % 256))).2
        have hownk2 : (w3.setCell ⟨b3, q, none⟩ (.int .i64 (v % 256))).ownsRow (w.heap.size + 1) 3 1 u11 (wi n k) (((pbl n g xs k v).take (wi n k)).map (.int .i64)) := hownk.kept hgs (Or.inr (fun e => by have := (hob b3 e).2; have h2 : wr.heap.size ≤ b3 := hb3le; omega))
        have h40 := hgs.cell h30 (by simp; omega)
        have h41 := hgs.cell h31 (by simp; omega)
        have hval : (if wi n k = wi n k then nm n (pw1 (xs.getD (wi n k) 0) v (ws n g k)) else nm n (xs.getD (wi n k) 0)) = jw n g ((spl n g x).set q (v % 256)) := by rw [if_pos rfl, HX.out, HWS.out, ← jw_put hb g x v q hml]
        have HVAL := Lib.hid hval
        have hbd2 : ∀ jj, 0 ≤ ((spl n g x).set q (v % 256)).getD jj 0 ∧ ((spl n g x).set q (v % 256)).getD jj 0 ≤ 255 := set_bd (spl_bd hb g x) q (by omega)
        have HBD2 := Lib.hid hbd2
        have hrd := Rd.of_owns hset (by simp [spl_length]; omega)
        have HRD := Lib.hid hrd.drew
        have HK2 := Lib.hid hownk2.drew
        have hnx4 : Below w.heap.size w (w3.setCell ⟨b3, q, none⟩ (.int .i64 (v % 256))).drew := (hnx3.setCell (by show w.heap.size ≤ b3; omega) _).drew
        have HNX4 := Lib.hid hnx4
        have H40 := Lib.hid h40
        have H41 := Lib.hid h41
        clear hval hset hgs hbd2 hrd hownk2 hownk hown3 hnx4 h40 h41
        have hq0 : (0 : Int) ≤ (q : Int) := by omega
        have hq1 : (q : Int) < (nb n : Int) := by omega
        go_wp2_with fail
        go_region_held3 (fun w' => w'.cell? ⟨w.heap.size, 0, none⟩ = some (.int .i64 n) ∧ w'.cell? ⟨w.heap.size, 1, none⟩ = some (.bool g))
          (first | exact ⟨H40.out, H41.out⟩ | go_keep)
          ((first | (go_at_call 48; refine (refuns_c v 16 (Or.inl rfl) _).mono ?_; rintro e w' ⟨rfl, rfl⟩)))
        clear hu1 hu2 qc qf
        have hszS : w3.heap.size ≤ (w3.setCell ⟨b3, q, none⟩ (.int .i64 (v % 256))).drew.heap.size := by simp
        have HSZ := Lib.hid hszS
        clear hszS
        go_wp2_with (first | (go_at_call 64; refine (refjoin_c _ ((spl n g x).set q (v % 256)) n g hb (by simp [spl_length]; omega) (by simp [spl_length]; omega) HBD2.out _ HRD.out).mono ?_; rintro e w5 ⟨rfl, hb5⟩; have hown5 := own_keep HK2.out hb5) | (at_builtin; refine wpList_append_own _ rfl (.tmp 54) (.tmp 58) 37 rfl (w.heap.size + 1) 3 i0 (.int .i64 0) 1 8 Try.underlying37 hI.out.1 hI.out.2.1 hI.out.2.2.1 hI.out.2.2.2 rfl (by decide) _ (wi n k) _ rfl (hown5.alloc _) ⟨w5.heap.size, 0, none⟩ 1 1 [.int .i64 (jw n g ((spl n g x).set q (v % 256)))] rfl rfl ?_ ?_ ?_ ?_ ?_ ?_))
        · intro jj u hu
          match jj, hu with
          | 0, hu => simp at hu; subst hu; rw [add_none]; exact (World.cell?_alloc_at _ _ _ _ rfl).trans rfl
        · intro u hu; simp at hu; subst hu; rfl
        · unfold maxLen; omega
        · omega
        · have := hb5.size; have := HSZ.out; simp; omega
        · intro v6 w6 hown6 hgr6 _
          have hs5 := Nat.le_trans HSZ.out hb5.size
          have hs6 := hgr6.size
          have hs7 : w5.heap.size < w6.heap.size := by simp at hs6; omega
          have hne6 : some w.heap.size ≠ u11.ownBlock := fun e => by have := (hob _ e.symm).1; omega
          have h60 := hgr6.cell (((below_alloc w5 _).cell (p := ⟨w.heap.size, 0, none⟩) (by show w.heap.size < w5.heap.size; omega)).trans ((hb5.cell (p := ⟨w.heap.size, 0, none⟩) (by show w.heap.size < _; simp; omega)).trans H40.out)) hne6
          have h61 := hgr6.cell (((below_alloc w5 _).cell (p := ⟨w.heap.size, 1, none⟩) (by show w.heap.size < w5.heap.size; omega)).trans ((hb5.cell (p := ⟨w.heap.size, 1, none⟩) (by show w.heap.size < _; simp; omega)).trans H41.out)) hne6
          have hnx6 : Below w.heap.size w w6 := ((HNX4.out.trans (hb5.mono (by simp; omega))).alloc (by omega) _).grown hgr6 (by simp; omega) (fun kk e => by have := (hob kk e).1; omega)
          clear hgr6 hown5 hb5
          go_wp2
          go_roundw
          case rel => exact ⟨wi n k + 1, by omega, by go_num, by rw [HFIN.out, HVAL.out]; simpa using hown6, h60, h61, hnx6, by omega⟩
          case measure => simp [intOf]; omega
      · have hne : ((j : Int) == (wi n k : Int)) = false := beq_eq_false_iff_ne.2 (by omega)
        have hval : (if j = wi n k then nm n (pw1 (xs.getD (wi n k) 0) v (ws n g k)) else nm n (xs.getD j 0)) = jw n g (spl n g x) := by rw [if_neg hjw, HX.out, jw_spl hb]
        have HVAL := Lib.hid hval
        clear hval hjw
        have hrd : Rd .i64 w3 (.slice (some ⟨b3, 0, none⟩) (nb n) (nb n)) (spl n g x) := Rd.of_owns hown3 (by rw [spl_length]; omega)
        have HRD := Lib.hid hrd
        clear hrd hown3
        go_wp2_with (first | (go_at_call 64; refine (refjoin_c _ (spl n g x) n g hb (by simp [spl_length]; omega) (by simp [spl_length]; omega) (spl_bd hb g x) _ HRD.out).mono ?_; rintro e w5 ⟨rfl, hb5⟩; have hown5 := own_keep hownk hb5) | (at_builtin; refine wpList_append_own _ rfl (.tmp 54) (.tmp 58) 37 rfl (w.heap.size + 1) 3 i0 (.int .i64 0) 1 8 Try.underlying37 hI.out.1 hI.out.2.1 hI.out.2.2.1 hI.out.2.2.2 rfl (by decide) _ j _ rfl (hown5.alloc _) ⟨w5.heap.size, 0, none⟩ 1 1 [.int .i64 (jw n g (spl n g x))] rfl rfl ?_ ?_ ?_ ?_ ?_ ?_))
        · intro jj u hu
          match jj, hu with
          | 0, hu => simp at hu; subst hu; rw [add_none]; exact (World.cell?_alloc_at _ _ _ _ rfl).trans rfl
        · intro u hu; simp at hu; subst hu; rfl
        · unfold maxLen; omega
        · omega
        · have := hb5.size; simp; omega
        · intro v6 w6 hown6 hgr6 _
          have hs5 := hb5.size
          have hs6 := hgr6.size
          have hs7 : w5.heap.size < w6.heap.size := by simp at hs6; omega
          have hne6 : some w.heap.size ≠ u11.ownBlock := fun e => by have := (hob _ e.symm).1; omega
          have h60 := hgr6.cell (((below_alloc w5 _).cell (p := ⟨w.heap.size, 0, none⟩) (by show w.heap.size < w5.heap.size; omega)).trans ((hb5.cell (p := ⟨w.heap.size, 0, none⟩) (by show w.heap.size < _; omega)).trans h30)) hne6
          have h61 := hgr6.cell (((below_alloc w5 _).cell (p := ⟨w.heap.size, 1, none⟩) (by show w.heap.size < w5.heap.size; omega)).trans ((hb5.cell (p := ⟨w.heap.size, 1, none⟩) (by show w.heap.size < _; omega)).trans h31)) hne6
          have hnx6 : Below w.heap.size w w6 := ((hnx3.trans (hb5.mono (by omega))).alloc (by omega) _).grown hgr6 (by simp; omega) (fun kk e => by have := (hob kk e).1; omega)
          clear hgr6 hownk hown5 hb5
          go_wp2
          go_roundw
          case rel => exact ⟨j + 1, by omega, by go_num, by rw [HFIN.out, HVAL.out]; simpa using hown6, h60, h61, hnx6, by omega⟩
          case measure => simp [intOf]; omega
    · obtain rfl : j = m := by omega
      clear hlt hj
      go_wp2
      go_ret2
      refine ⟨_, rfl, ?_, hnx⟩
      have hr := Rd.of_owns hownr (by simp; have := HLEN.out; omega)
      rwa [List.take_of_length_le (by have := HLEN.out; omega)] at hr
end Go.Proofs.Ytmhifelkihcidaa
