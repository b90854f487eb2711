/- Pack of the reference by its contract. -/
import Derived.Test.YtmhifelkihcidaaWRpw
namespace Go.Proofs.Ytmhifelkihcidaa
open Go.RowKit WM
set_option linter.unusedVariables false

/-- a slice's length, and nothing else -/
def lenV : Value → Nat
  | .slice _ n _ => n
  | _ => 0
theorem own_shape {w : World} {base : Nat} {e : TypeId} {v : Value} {n : Nat} {xs : List Value} (h : w.ownsRow base e 1 v n xs) : ∃ a cap, v = .slice a n cap := by
  rcases h.2 with ⟨rfl, h0⟩ | ⟨g, cap, cur, rfl, _⟩
  · exact ⟨none, 0, by rw [h0]⟩
  · exact ⟨_, cap, rfl⟩
theorem sbytes_take (s : ByteArray) (k : Nat) (hk : k < s.size) : (sbytes s).take (k + 1) = (sbytes s).take k ++ [(sbytes s).getD k 0] := by
  have h : k < (sbytes s).length := by rw [sbytes_len]; exact hk
  rw [List.take_succ_eq_append_getElem h]
  simp [h]
theorem sbytes_at (s : ByteArray) (k : Nat) (hk : k < s.size) : (sbytes s).getD k 0 = ((s[k]'hk).toNat : Int) := by
  have h : k < s.data.toList.length := by simpa using hk
  unfold sbytes
  simp only [List.getD_eq_getElem?_getD, List.getElem?_map, List.getElem?_eq_getElem h, Option.map_some, Option.getD_some]
  rfl
theorem own_some {w : World} {base : Nat} {e : TypeId} {v : Value} {n : Nat} {xs : List Value} (h : w.ownsRow base e 1 v n xs) (hn : 0 < n) : ∃ g cap, v = .slice (some ⟨g, 0, none⟩) n cap ∧ n ≤ cap ∧ cap ≤ maxLen ∧ base ≤ g := by
  rcases h.2 with ⟨rfl, h0⟩ | ⟨g, cap, cur, rfl, hb, _, hc, hm, _⟩
  · omega
  · exact ⟨g, cap, rfl, hc, hm, hb⟩
theorem rd_drew {k : IntKind} {w : World} {v : Value} {xs : List Int} (h : Rd k w v xs) : Rd k w.drew v xs := h
set_option maxHeartbeats 400000 in
theorem refPack_form (s : ByteArray) (n : Int) (g : Bool) (hb : ¬ IsBits n) (w : World) :
    Calls Try.prog 32 #[.string s, .agg #[.int .i64 n, .bool g]] w (GivesInts2 [] 3 w) := by
  go_enter Try.func32, Try.ntmps32
  go_wp2_with (first | (go_at_call 42; refine (refValid_no _ _ hb _).mono ?_; rintro e w1 ⟨rfl, hb1⟩))
  go_ret2
  exact ⟨_, rfl, Rd.nil _ _, (by repeat (first | exact Below.refl _ _ | exact below_alloc _ _ | refine below_back (by assumption) ?_ | refine Below.drew ?_ | refine below_drewN ?_ _ | refine Below.alloc ?_ (by first | exact Nat.le_refl _ | (simp; done) | (simp; omega)) _))⟩
set_option maxHeartbeats 400000 in
theorem refPack_limit (s : ByteArray) (n : Int) (g : Bool) (hb : IsBits n) (hs : 255 < s.size) (w : World) :
    Calls Try.prog 32 #[.string s, .agg #[.int .i64 n, .bool g]] w (GivesInts2 [] 2 w) := by
  go_enter Try.func32, Try.ntmps32
  go_wp2_with (first | (go_at_call 42; refine (refValid_yes _ _ hb _).mono ?_; rintro e w1 ⟨rfl, hb1⟩; have hf0 : w1.cell? ⟨w.heap.size, 0, none⟩ = some (.int .i64 n) := (hb1.cell (p := ⟨w.heap.size, 0, none⟩) (by simp)).trans ((World.cell?_alloc_at _ _ _ _ rfl).trans rfl); have hf1 : w1.cell? ⟨w.heap.size, 1, none⟩ = some (.bool g) := (hb1.cell (p := ⟨w.heap.size, 1, none⟩) (by simp)).trans ((World.cell?_alloc_at _ _ _ _ rfl).trans rfl)))
  go_ret2
  exact ⟨_, rfl, Rd.nil _ _, (by repeat (first | exact Below.refl _ _ | exact below_alloc _ _ | refine below_back (by assumption) ?_ | refine Below.drew ?_ | refine below_drewN ?_ _ | refine Below.alloc ?_ (by first | exact Nat.le_refl _ | (simp; done) | (simp; omega)) _))⟩
set_option maxHeartbeats 1600000 in
theorem refPack_ok (s : ByteArray) (n : Int) (g : Bool) (hb : IsBits n) (hs : s.size ≤ 255) (w : World) :
    Calls Try.prog 32 #[.string s, .agg #[.int .i64 n, .bool g]] w (GivesInts2 (jn n g (pkb s)) 0 w) := by
  obtain ⟨i0, hii, hz0, hz1, hz2⟩ := info_parts info_int
  have hI := Lib.hid (And.intro hii (And.intro hz0 (And.intro hz1 hz2)))
  have hnb := nb_bd hb
  have hnb0 : ¬ nb n = 0 := by omega
  clear hii hz0 hz1 hz2
  obtain ⟨L, hL⟩ : ∃ L, L = s.size := ⟨_, rfl⟩
  have HL := Lib.hid hL
  have hs' : ¬ 255 < s.size := by omega
  go_enter Try.func32, Try.ntmps32
  go_wp2_with (first | (go_at_call 42; refine (refValid_yes _ _ hb _).mono ?_; rintro e w1 ⟨rfl, hb1⟩; have hf0 : w1.cell? ⟨w.heap.size, 0, none⟩ = some (.int .i64 n) := (hb1.cell (p := ⟨w.heap.size, 0, none⟩) (by simp)).trans ((World.cell?_alloc_at _ _ _ _ rfl).trans rfl); have hf1 : w1.cell? ⟨w.heap.size, 1, none⟩ = some (.bool g) := (hb1.cell (p := ⟨w.heap.size, 1, none⟩) (by simp)).trans ((World.cell?_alloc_at _ _ _ _ rfl).trans rfl)))
  have hown1 := World.ownsRow_lit (base := w1.heap.size) (e := 3) (size := 1) w1 #[.int .i64 s.size] 1 (Nat.le_refl _) (by unfold maxLen; omega) rfl
  have h2 : Below w.heap.size w (w1.alloc (.cells #[.int .i64 s.size] 3)) := (((below_alloc w _).trans (hb1.mono (by simp))).alloc (by have := hb1.size; simp at this; omega) _)
  have hs1 : w.heap.size < w1.heap.size := by have := hb1.size; simp at this; omega
  have g0 := ((below_alloc w1 (.cells #[.int .i64 s.size] 3)).cell (p := ⟨w.heap.size, 0, none⟩) (World.block_lt_of_cell? _ _ hf0)).trans hf0
  have g1 := ((below_alloc w1 (.cells #[.int .i64 s.size] 3)).cell (p := ⟨w.heap.size, 1, none⟩) (World.block_lt_of_cell? _ _ hf1)).trans hf1
  have hs2 : w.heap.size < (w1.alloc (.cells #[.int .i64 s.size] 3)).heap.size := by simp; omega
  have hown2 := own_base (base' := w.heap.size + 1) hown1 (by omega)
  clear hb1 hown1 hf0 hf1
  go_loopw [6, 7] (fun vo iv wr => ∃ k : Nat, k ≤ s.size ∧ iv = .int .i64 k ∧ wr.ownsRow (w.heap.size + 1) 3 1 vo (k + 1) ((((s.size : Nat) : Int) :: (sbytes s).take k).map (.int .i64)) ∧ wr.cell? ⟨w.heap.size, 0, none⟩ = some (.int .i64 n) ∧ wr.cell? ⟨w.heap.size, 1, none⟩ = some (.bool g) ∧ Below w.heap.size w wr ∧ w.heap.size < wr.heap.size) (fun _ iv _ => s.size - (intOf iv).toNat)
  case atStart => exact ⟨0, Nat.zero_le _, rfl, hown2, g0, g1, h2, hs2⟩
  case round =>
    obtain ⟨k, hk, rfl, hownr, hr0, hr1, hnx, hsz⟩ := hrel
    clear hown2 g0 g1 h2 hs2
    by_cases hlt : k < s.size
    · have hlt' : (k : Int) < (s.size : Int) := by omega
      have hk0 : (0 : Int) ≤ (k : Int) := by omega
      have HT := Lib.hid (sbytes_take s k hlt)
      have HA := Lib.hid (sbytes_at s k hlt)
      have hby : (s[k]'hlt).toNat < 256 := (s[k]'hlt).toNat_lt
      go_wp2_with (first | (at_builtin; refine wpList_append_one rfl (.tmp 25) (.tmp 30) 37 rfl (w.heap.size + 1) 3 i0 .i64 8 Try.underlying37 hI.out (by decide) _ _ _ rfl hownr _ rfl ?_ ?_ ?_))
      · omega
      · omega
      intro v6 w6 hown6 hcl6 hbe6 hsz6 hob6
      have k0 := hcl6 _ _ hr0 (fun e => by have := (hownr.lt _ e.symm).1; simp at this; omega)
      have k1 := hcl6 _ _ hr1 (fun e => by have := (hownr.lt _ e.symm).1; simp at this; omega)
      have kb := hbe6 _ _ hnx (by omega)
      clear hcl6 hbe6 hob6 hownr hnx hr0 hr1
      go_wp2
      go_roundw
      case rel => exact ⟨k + 1, by omega, by go_num, by rw [HT.out, HA.out]; simpa using hown6, k0, k1, kb, by omega⟩
      case measure => simp [intOf]; omega
    · obtain rfl : k = s.size := by omega
      rw [List.take_of_length_le (by rw [sbytes_len]; exact Nat.le_refl _)] at hownr
      obtain ⟨q, Z, hq, hZ, hqd, hz⟩ := pad_up hb (s.size + 1)
      have hZ256 : s.size + 1 + Z ≤ 260 := by omega
      have hqle : q ≤ 260 := by have : q * 1 ≤ q * nb n := Nat.mul_le_mul (Nat.le_refl _) (by omega); omega
      have HQ := Lib.hid hq
      have HJ : Hid (jn n g (pkb s) = jwl n g (pkb s) q) := jn_jwl hb g (pkb s) (pkb_bd s hs) q (by rw [show (pkb s).length = s.size + 1 from by simp [pkb, sbytes_len]]; exact hqd)
      have HZ := Lib.hid hz
      have hks : ¬ (s.size : Int) < (s.size : Int) := by omega
      clear hlt hk hq hqd hz
      go_wp2_with fail
      go_loopw [6] (fun vo wr => ∃ z : Nat, z ≤ Z ∧ wr.ownsRow (w.heap.size + 1) 3 1 vo (s.size + 1 + z) ((pkb s ++ List.replicate z 0).map (.int .i64)) ∧ wr.cell? ⟨w.heap.size, 0, none⟩ = some (.int .i64 n) ∧ wr.cell? ⟨w.heap.size, 1, none⟩ = some (.bool g) ∧ Below w.heap.size w wr ∧ w.heap.size < wr.heap.size) (fun vo _ => s.size + 1 + Z - lenV vo)
      case atStart => exact ⟨0, Nat.zero_le _, by simpa [pkb] using hownr, hr0, hr1, hnx, hsz⟩
      case round =>
        obtain ⟨z, hz, hownz, hz0, hz1, hnz, hsz2⟩ := hrel
        clear hownr hr0 hr1 hnx hsz
        have HTZ := Lib.hid (HZ.out z)
        obtain ⟨t, ht⟩ : ∃ t, t = s.size + 1 + z := ⟨_, rfl⟩
        rw [← ht] at hownz HTZ
        obtain ⟨b, cap, rfl, hcap, hcm, hbb⟩ := own_some hownz (by omega)
        have hr1 : (t : Int).tmod (nb n : Int) = ((t % nb n : Nat) : Int) := by rw [Int.tmod_eq_emod_of_nonneg (by omega), ← Int.natCast_emod]
        have hr2 : (t : Int) % (nb n : Int) = ((t % nb n : Nat) : Int) := by rw [← Int.natCast_emod]
        by_cases hlt : z < Z
        · have HT := Lib.hid ht
          have htl : t ≤ 260 := by omega
          have hr0 := HTZ.out hlt
          clear ht
          generalize t % nb n = r at *
          have hr3 : (0 : Int) < (r : Int) := by omega
          go_wp2_with (first | (go_at_call 60; refine (refsize_c _ _ hb _).mono ?_; rintro e w5 ⟨rfl, hb5⟩; have hown5 := own_keep hownz hb5; have d0 := (hb5.cell (p := ⟨w.heap.size, 0, none⟩) (World.block_lt_of_cell? _ _ hz0)).trans hz0; have d1 := (hb5.cell (p := ⟨w.heap.size, 1, none⟩) (World.block_lt_of_cell? _ _ hz1)).trans hz1) | (at_builtin; refine wpList_append_one rfl (.tmp 38) (.tmp 39) 37 rfl (w.heap.size + 1) 3 i0 .i64 8 Try.underlying37 hI.out (by decide) _ _ _ rfl hown5 _ rfl ?_ ?_ ?_))
          · omega
          · have := hb5.size; omega
          intro v6 w6 hown6 hcl6 hbe6 hsz6 hob6
          have hs5 := hb5.size
          have k0 := hcl6 _ _ d0 (fun e => by have := (hown5.lt _ e.symm).1; simp at this; omega)
          have k1 := hcl6 _ _ d1 (fun e => by have := (hown5.lt _ e.symm).1; simp at this; omega)
          have kb := hbe6 _ _ (hnz.trans (hb5.mono (by omega))) (by omega)
          obtain ⟨a6, cap6, rfl⟩ := own_shape hown6
          clear hcl6 hbe6 hob6 hown5 hownz hnz hz0 hz1 d0 d1 hb5
          go_wp2
          go_roundw
          case rel => exact ⟨z + 1, by omega, by rw [show s.size + 1 + (z + 1) = t + 1 from by have := HT.out; omega, List.replicate_succ', ← List.append_assoc, List.map_append, List.map_append, List.map_replicate, List.append_assoc]; exact hown6, k0, k1, kb, by omega⟩
          case measure => simp [lenV]; have := HT.out; omega
        · obtain rfl : z = Z := by omega
          have hmod : t % nb n = 0 := by rw [ht, HQ.out]; exact Nat.mul_mod_left _ _
          have htq : t = q * nb n := by rw [ht]; exact HQ.out
          have htl : t ≤ 260 := by omega
          have HTQ := Lib.hid htq
          rw [hmod] at hr1 hr2
          clear hlt hz hmod ht htq HTZ
          go_wp2_with (first | (go_at_call 60; refine (refsize_c _ _ hb _).mono ?_; rintro e w5 ⟨rfl, hb5⟩; have hown5 := own_keep hownz hb5; have d0 := (hb5.cell (p := ⟨w.heap.size, 0, none⟩) (World.block_lt_of_cell? _ _ hz0)).trans hz0; have d1 := (hb5.cell (p := ⟨w.heap.size, 1, none⟩) (World.block_lt_of_cell? _ _ hz1)).trans hz1))
          have hs5 := hb5.size
          have hn5 : Below w.heap.size w w5 := hnz.trans (hb5.mono (by omega))
          have HRD : Hid (∀ c, c < q → ∀ cp, Rd .i64 w5 (.slice (some ⟨b, c * nb n, none⟩) (nb n) cp) (chunk n (pkb s ++ List.replicate z 0) c)) := by
            intro c hc cp
            refine ⟨_, cp, by rw [chunk_length], by rw [chunk_length]; omega, .inr ⟨b, c * nb n, rfl, fun i hi => ?_⟩⟩
            rw [chunk_length] at hi
            have hle : c * nb n + nb n ≤ t := by rw [HTQ.out, ← Nat.succ_mul]; exact Nat.mul_le_mul (by omega) (Nat.le_refl _)
            rw [own_cell hown5 (c * nb n + i) (by omega)]
            simp [chunk, hi]
          have HALL : Hid (jn n g (pkb s) = jwl n g (pkb s ++ List.replicate z 0) q) := by show jn n g (pkb s) = _; rw [jwl_pad]; exact HJ.out
          have HBD : Hid (∀ j, 0 ≤ (pkb s ++ List.replicate z 0).getD j 0 ∧ (pkb s ++ List.replicate z 0).getD j 0 ≤ 255) := by
            intro j
            have h1 := pkb_bd s hs j
            simp only [List.getD_eq_getElem?_getD, List.getElem?_append] at h1 ⊢
            by_cases h : j < (pkb s).length
            · rw [if_pos h]; exact h1
            · rw [if_neg h, List.getElem?_replicate]; split <;> simp
          generalize pkb s ++ List.replicate z 0 = all at *
          obtain ⟨W0, hW0⟩ : ∃ W0, W0 = w5 := ⟨_, rfl⟩
          subst hW0
          clear hownz hz0 hz1 hnz hb5 hown5 HZ HJ HQ hr1 hr2
          go_loopw [8, 9] (fun vo iv wr => ∃ c : Nat, c ≤ q ∧ iv = .int .i64 ((c * nb n : Nat) : Int) ∧ wr.ownsRow W0.heap.size 3 1 vo c ((jwl n g all c).map (.int .i64)) ∧ Below W0.heap.size W0 wr) (fun _ iv _ => t - (intOf iv).toNat)
          case atStart => exact ⟨0, Nat.zero_le _, by rw [Nat.zero_mul]; rfl, World.ownsRow_nil _ _ _ _, Below.refl _ _⟩
          case round =>
            obtain ⟨c, hc, rfl, hownr, hbq⟩ := hrel
            have hsq := hbq.size
            have c0 := (hbq.cell (p := ⟨w.heap.size, 0, none⟩) (World.block_lt_of_cell? _ _ d0)).trans d0
            have c1 := (hbq.cell (p := ⟨w.heap.size, 1, none⟩) (World.block_lt_of_cell? _ _ d1)).trans d1
            by_cases hlt : c < q
            · have hPm : c * nb n + nb n ≤ t := by rw [HTQ.out, ← Nat.succ_mul]; exact Nat.mul_le_mul (by omega) (Nat.le_refl _)
              have HSUC : Hid ((c + 1) * nb n = c * nb n + nb n) := Nat.succ_mul _ _
              have HRC := Lib.hid (HRD.out c hlt (cap - c * nb n))
              generalize hP : c * nb n = P at *
              clear hP
              have hP0 : (P : Int) < (t : Int) := by omega
              obtain ⟨E, hE⟩ : ∃ E, E = P + nb n := ⟨_, rfl⟩
              have hE0 : (P : Int) + (nb n : Int) = (E : Int) := by omega
              have hEw : IntKind.i64.wrap (E : Int) = (E : Int) := IntWalk.i64_in _ ⟨by omega, by omega⟩
              have hP1 : (0 : Int) ≤ (P : Int) := by omega
              have hP2 : (P : Int) ≤ (E : Int) := by omega
              have hP3 : (E : Int) ≤ (cap : Int) := by omega
              have hP5 : E - P = nb n := by omega
              have hcp : ¬ cap = P := by omega
              clear hE
              go_wp2_with fail
              have HN : Hid (some w.heap.size ≠ u8.ownBlock) := fun e => by have := (hownr.lt _ e.symm).1; omega
              have HWW : Hid (w.heap.size < wr.heap.size) := by show w.heap.size < wr.heap.size; omega
              have HCB : Hid (c ≤ 4294967296) := by show c ≤ 4294967296; omega
              go_region_held3 (fun w' => w'.cell? ⟨w.heap.size, 0, none⟩ = some (.int .i64 n) ∧ w'.cell? ⟨w.heap.size, 1, none⟩ = some (.bool g))
                (first | (exact ⟨hcl8 _ _ HE7.out.1 HN.out, hcl8 _ _ HE7.out.2 HN.out⟩) | (go_split_ands; refine ⟨?_, ?_⟩; all_goals (refine (hb7.cell (World.block_lt_of_cell? _ _ (by assumption))).trans (by assumption))) | (go_split_ands; refine ⟨?_, ?_⟩; all_goals (refine (hb6.cell (World.block_lt_of_cell? _ _ (by assumption))).trans (by assumption))) | go_keep)
                ((first
                  | (go_at_call 60; refine (refsize_c _ _ hb _).mono ?_; rintro e w6 ⟨rfl, hb6⟩)
                  | (go_at_call 64; refine (refjoin_c _ (chunk n all c) n g hb (by rw [chunk_length]; omega) (by rw [chunk_length]; omega) (chunk_bd HBD.out n c) _ ((rd_drew (HRC.out.keep hbq)).keep hb6)).mono ?_; rintro e w7 ⟨rfl, hb7⟩; have hown7 := own_keep (own_keep hownr.drew hb6) hb7; have HE7 := Lib.hid (And.intro ((hb7.cell (p := ⟨w.heap.size, 0, none⟩) (Nat.lt_of_lt_of_le HWW.out hb6.size)).trans ((hb6.cell (p := ⟨w.heap.size, 0, none⟩) HWW.out).trans c0)) ((hb7.cell (p := ⟨w.heap.size, 1, none⟩) (Nat.lt_of_lt_of_le HWW.out hb6.size)).trans ((hb6.cell (p := ⟨w.heap.size, 1, none⟩) HWW.out).trans c1))); have HSB : Hid (W0.heap.size ≤ w7.heap.size) := Nat.le_trans hsq (Nat.le_trans hb6.size hb7.size))
                  | (refine step_append_one (W := w7) (by rfl) (.tmp 49) (.tmp 59) 37 (by rfl) W0.heap.size 3 i0 .i64 8 Try.underlying37 hI.out (Nat.le_refl _) u8 c (jwl n g all c) (by rfl) hown7 (jw n g (chunk n all c)) (by rfl) HCB.out HSB.out ?_; intro v8 w8 hown8 hcl8 hbe8 hsz8 hob8)))
              have h6 := hb6.size
              have h7 := hb7.size
              simp at h6
              have kb := hbe8 W0.heap.size W0 ((hbq.drew.trans (hb6.mono (by simp; omega))).trans (hb7.mono (by omega))) (Nat.le_refl _)
              have e0 := hcl8 _ _ HE7.out.1 HN.out
              have e1 := hcl8 _ _ HE7.out.2 HN.out
              clear hcl8 hbe8 hob8 hown7 hb6 hb7 hownr hbq c0 c1
              go_wp2_with (first
                | (go_at_call 60; refine (refsize_c _ _ hb _).mono ?_; rintro e w9 ⟨rfl, hb9⟩; have hown9 := own_keep hown8 hb9))
              have hs9 := hb9.size
              go_roundw
              case rel => exact ⟨c + 1, by omega, by rw [HSUC.out]; go_num, by rw [jwl_succ]; exact hown9, kb.trans (hb9.mono (by omega))⟩
              case measure => simp [intOf]; omega
            · obtain rfl : c = q := by omega
              have hP : ¬ ((c * nb n : Nat) : Int) < (t : Int) := by rw [← HTQ.out]; omega
              go_wp2
              go_ret2
              refine ⟨_, rfl, ?_, hn5.trans (hbq.mono (by omega))⟩
              rw [HALL.out]
              exact Rd.of_owns hownr (by rw [jwl_length]; omega)
end Go.Proofs.Ytmhifelkihcidaa
