/- How a string is quoted by the program. -/
import Derived.Test.YtfnkafnjpldaoaaDoorLxQuoR
import Derived.Deep.AppendLies
import Derived.Laws.Slices
import Derived.Outline
import Derived.IntWalk
import Derived.Deep.Light
import Derived.Lib.AppendStr
namespace Go.Proofs.YtfnkafnjpldaoaaDoor
open Go.RowKit
set_option linter.unusedVariables false
theorem u8_info : (Tryd.prog.info? 5).map (fun i => (i.zero, i.size, i.bytes)) = some (some (.int .u8 0), 1, 1) := by kernel_rfl
theorem add_plain (b off j : Nat) : (⟨b, off, none⟩ : Addr).add j = ⟨b, off + j, none⟩ := by unfold Addr.add; split <;> simp_all
theorem owns_form {w : World} {base : Nat} {e : TypeId} {size : Nat} {v : Value} {n : Nat} {xs : List Value} (h : w.ownsRow base e size v n xs) : ∃ a cap, v = .slice a n cap := by
  rcases h.2 with ⟨rfl, rfl⟩ | ⟨g, cap, cur, rfl, _⟩
  · exact ⟨_, _, rfl⟩
  · exact ⟨_, _, rfl⟩
theorem isPlain_true {c : UInt8} (h : LX.plain c = true) (w : World) : Calls Tryd.prog 34 #[.int .u8 (c.toNat : Int)] w fun e w' => e = .returned (.bool true) ∧ w = w' := by
  refine (isPlain_c c w).mono ?_
  rintro e w' ⟨h1, h2⟩
  rw [h] at h1; exact ⟨h1, h2⟩
theorem isPlain_false {c : UInt8} (h : LX.plain c = false) (w : World) : Calls Tryd.prog 34 #[.int .u8 (c.toNat : Int)] w fun e w' => e = .returned (.bool false) ∧ w = w' := by
  refine (isPlain_c c w).mono ?_
  rintro e w' ⟨h1, h2⟩
  rw [h] at h1; exact ⟨h1, h2⟩
def bc (c : UInt8) : Value := .int .u8 (c.toNat : Int)
theorem conv_own (W : World) (base : Nat) (v : Value) (acc : LX.Bs) (hown : W.ownsRow base 5 1 v acc.length (acc.map bc)) : (convert 58 9 v).run Tryd.prog W = .ok (.string ⟨acc.toArray⟩) W := by
  rcases hown.2 with ⟨rfl, h0⟩ | ⟨g, cap, cur, rfl, hb, hg, h1, h2, h3, h4⟩
  · have : acc = [] := List.length_eq_zero_iff.1 h0
    subst this
    rw [run_convert_bytes_string W 58 9 5 none 0 0 Tryd.underlying58 Tryd.underlying5 Tryd.underlying9]
    simp [Conv.bytesToString]; rfl
  · refine run_convert_bytes_back _ _ _ _ ⟨g, 0, none⟩ cap acc Tryd.underlying58 Tryd.underlying5 Tryd.underlying9 ?_
    intro j hj
    rw [add_plain, Nat.zero_add, hown.cellAt j (by omega)]
    simp [hj, bc]
theorem wpList_append_mem {P : Program} {W : World} {ops : Array Oper} {rest : List Oper} {o : Oper} {a : Act} {Q : Exit → Act → World → Prop} (hgd : o.guard = none) (s x : Operand) (t : TypeId)
    (ho : o.op = .call { callee := .builtin .append, args := #[s, x], argTypes := #[t, t] })
    (base : Nat) (e : TypeId) (i : TypeInfo) (ht : P.underlying t = some (.slice e)) (hI : P.info? e = some i ∧ i.zero = some (.int .u8 0) ∧ i.size = 1 ∧ i.bytes = 1)
    (v : Value) (n : Nat) (xs : LX.Bs) (hs : a.eval s = v) (hown : W.ownsRow base e 1 v n (xs.map bc)) (ys : LX.Bs) (cs : Array Value) (hcs : cs.toList = ys.map bc) (m : Nat) (hm : m = ys.length) (hy : 0 < m) (hy2 : m ≤ 8) (H : Nat) (hH : W.heap.size = H) (hx : a.eval x = .slice (some ⟨H, 0, none⟩) m m)
    (hn : n ≤ 1000000) (hbase : base ≤ W.heap.size)
    (h : ∀ v' w', w'.ownsRow base e 1 v' (n + m) ((xs ++ ys).map bc) → (∀ B w0, Below B w0 W → B ≤ base → Below B w0 w') → W.heap.size < w'.heap.size → wpList P ops Q rest (a.put o.dst v') w') :
    wpList P ops Q (o :: rest) a (W.alloc (.cells cs e)) := by
  subst hH hm
  obtain ⟨h1, h2, h3, h4⟩ := hI
  refine wpList_append_lies _ hgd s x t ho base e i (.int .u8 0) 1 1 ht h1 h2 h3 h4 rfl (by decide) v n _ hs (hown.alloc _) ⟨W.heap.size, 0, none⟩ ys.length ys.length (ys.map bc) hx (by simp) ?_ ?_ hy ?_ ?_ ?_ _ rfl ?_
  · intro jj y hy
    rw [add_plain, Nat.zero_add]
    refine (World.cell?_alloc_at _ _ _ _ rfl).trans ?_
    rw [← hcs] at hy
    simpa using hy
  · intro u hu
    rw [List.mem_map] at hu
    obtain ⟨c, _, rfl⟩ := hu
    rfl
  · unfold maxLen; omega
  · omega
  · simp; omega
  · intro g cap w' hown' hgr hat _
    have hsz := hgr.size
    rw [← List.map_append] at hown'
    refine h _ w' hown' ?_ (by simp at hsz; omega)
    intro B w0 hB hle
    exact (hB.alloc (by have := hB.size; omega) _).grown hgr (by simp; omega) (fun kk e => Nat.le_trans hle ((hown.lt kk e).1))
theorem owns_one (w : World) (e : TypeId) (c : UInt8) (cs : Array Value) (hcs : cs = #[bc c]) : (w.alloc (.cells cs e)).ownsRow w.heap.size e 1 (.slice (some ⟨w.heap.size, 0, none⟩) 1 1) 1 ([c].map bc) := by
  subst hcs
  refine ⟨by simp, .inr ⟨w.heap.size, 1, #[bc c], rfl, Nat.le_refl _, ?_, Nat.le_refl _, by unfold maxLen; decide, rfl, rfl⟩⟩
  exact heap_alloc_new _ _
set_option maxHeartbeats 2000000 in
theorem Quote_c (s : ByteArray) (w : World) (hs : s.size ≤ 140737488351232) :
    Calls Tryd.prog 22 #[.string s] w fun e w' => e = .returned (.tuple #[.string ⟨(LX.quoteR (bs s)).1.toArray⟩, .int .i64 ((LX.quoteR (bs s)).2 : Int)]) ∧ Below w.heap.size w w' := by
  obtain ⟨ti, hi1, hi2, hi3, hi4⟩ := info_parts u8_info
  have hI : Tryd.prog.info? 5 = some ti ∧ ti.zero = some (.int .u8 0) ∧ ti.size = 1 ∧ ti.bytes = 1 := ⟨hi1, hi2, hi3, hi4⟩
  have HI := Lib.hid hI
  clear hI hi1 hi2 hi3 hi4
  have hl := bs_len s
  have HL := Lib.hid hl
  clear hl
  go_enter Tryd.func22, Tryd.ntmps22
  go_wp2
  go_loop [10] (fun i => ∃ k : Nat, k ≤ s.size ∧ i = .int .i64 k ∧ Hid (((bs s).take k).all LX.okq = true)) (fun i => s.size - (intOf i).toNat)
  case atStart => exact ⟨0, Nat.zero_le _, rfl, (show Hid _ from by show (List.take 0 _).all _ = true; simp)⟩
  case round =>
    obtain ⟨k, hk, rfl, hq⟩ := hrel
    by_cases hlt : k < s.size
    · have hkl : k < (bs s).length := by rw [HL.out]; exact hlt
      have ub := u8_bd s[k]
      have k0 : (0 : Int) ≤ (k : Int) := by omega
      have hall : LX.okq s[k] = true → Hid (((bs s).take (k + 1)).all LX.okq = true) := fun h => LX.all_succ hkl hq.out h
      have hbad : LX.okq s[k] = false → Hid (LX.quoteR (bs s) = ([], 3)) := fun h => LX.quoteR_bad hkl h
      have HA := Lib.hid hall
      have HX := Lib.hid hbad
      clear hall hbad hq
      cases hp : LX.plain s[k] with
      | true =>
        have hr := HA.out (by simp [LX.okq, hp])
        have HC := Lib.hid (fun W => isPlain_true hp W)
        clear hp HX HA
        go_wp2_with (go_at_call 34; refine (HC.out _).mono ?_; rintro e w' ⟨rfl, rfl⟩)
        all_goals first
          | (exfalso; simp_all; done)
          | (exfalso; simp_all; omega)
          | (go_round
             case rel => exact ⟨k + 1, by omega, by go_num, hr⟩
             case measure => simp [intOf]; omega)
      | false =>
        have HC := Lib.hid (fun W => isPlain_false hp W)
        by_cases h10 : s[k].toNat = 10
        · have hr := HA.out (by simp [LX.okq, h10])
          have f1 := neF (c := s[k]) 10 (by omega)
          clear hp HX HA h10
          go_wp2_with (go_at_call 34; refine (HC.out _).mono ?_; rintro e w' ⟨rfl, rfl⟩)
          all_goals first
            | (exfalso; simp_all; done)
            | (exfalso; simp_all; omega)
            | (go_round
               case rel => exact ⟨k + 1, by omega, by go_num, hr⟩
               case measure => simp [intOf]; omega)
        · have f1 := neT (c := s[k]) 10 (by omega)
          by_cases h9 : s[k].toNat = 9
          · have hr := HA.out (by simp [LX.okq, h9])
            have f2 := neF (c := s[k]) 9 (by omega)
            clear hp HX HA h10 h9
            go_wp2_with (go_at_call 34; refine (HC.out _).mono ?_; rintro e w' ⟨rfl, rfl⟩)
            all_goals first
              | (exfalso; simp_all; done)
              | (exfalso; simp_all; omega)
              | (go_round
                 case rel => exact ⟨k + 1, by omega, by go_num, hr⟩
                 case measure => simp [intOf]; omega)
          · have hr := HX.out (by simp [LX.okq, hp, h10, h9])
            have f2 := neT (c := s[k]) 9 (by omega)
            clear hp HX HA h10 h9
            go_wp2_with (go_at_call 34; refine (HC.out _).mono ?_; rintro e w' ⟨rfl, rfl⟩)
            all_goals first
              | (exfalso; simp_all; done)
              | (exfalso; simp_all; omega)
              | (go_ret2; exact ⟨by rw [hr.out]; rfl, Below.refl _ _⟩)
    · obtain rfl : k = s.size := by omega
      have hall : Hid ((bs s).all LX.okq = true) := by have h := hq.out; rw [← HL.out, List.take_length] at h; exact h
      have hqb : Hid (LX.qbody ((bs s).take s.size) = LX.qbody (bs s)) := by show _ = _; rw [← HL.out, List.take_length]
      by_cases h100 : 100 < s.size
      · have hr : Hid (LX.quoteR (bs s) = ([], 2)) := LX.quoteR_long hall.out (by rw [HL.out]; exact h100)
        have g1 : (100 : Int) < (s.size : Int) := by omega
        clear h100
        go_wp2
        go_ret2
        exact ⟨by rw [hr.out]; rfl, Below.refl _ _⟩
      have hr : Hid (LX.quoteR (bs s) = (LX.quote (bs s), 0)) := LX.quoteR_good hall.out (by rw [HL.out]; exact h100)
      have g1 : ¬ (100 : Int) < (s.size : Int) := by omega
      have hs100 : s.size ≤ 100 := by omega
      have HO := Lib.hid (owns_one w 5 34 #[.int .u8 34] rfl)
      clear h100 hq
      go_wp2
      obtain ⟨W0, hW0⟩ : ∃ W0, w.alloc (.cells #[.int .u8 34] 5) = W0 := ⟨_, rfl⟩
      have hb0 : Below w.heap.size w W0 := by rw [← hW0]; exact below_alloc _ _
      have HO2 := HO.out
      rw [hW0] at HO2 ⊢
      have HO3 := Lib.hid HO2
      clear HO2 HO hW0
      go_loopw [5, 37] (fun q i wr => ∃ (k : Nat), k ≤ s.size ∧ i = .int .i64 k ∧ wr.ownsRow w.heap.size 5 1 q (34 :: LX.qbody ((bs s).take k)).length ((34 :: LX.qbody ((bs s).take k)).map bc) ∧ Below w.heap.size w wr) (fun _ i _ => s.size - (intOf i).toNat)
      case atStart => exact ⟨0, Nat.zero_le _, rfl, HO3.out, hb0⟩
      case round =>
        obtain ⟨k, hk, rfl, hown, hb⟩ := hrel
        by_cases hlt : k < s.size
        · have hkl : k < (bs s).length := by rw [HL.out]; exact hlt
          have hsuc := LX.qbody_succ hkl
          have hlen := LX.qbody_take (bs s) k
          rw [HL.out] at hlen
          obtain ⟨B, hB⟩ : ∃ B, LX.qbody ((bs s).take k) = B := ⟨_, rfl⟩
          rw [hB] at hsuc hlen hown
          have hB1 : (34 :: B).length ≤ 201 := by simp; omega
          obtain ⟨sa, sc, rfl⟩ := owns_form hown
          obtain ⟨A, hA⟩ : ∃ A, 34 :: B = A := ⟨_, rfl⟩
          rw [hA] at hown hB1 ⊢
          have hrel2 : ∀ x, LX.qc s[k] = x → 34 :: LX.qbody ((bs s).take (k + 1)) = A ++ x := fun x hx => by rw [hsuc, ← hA, ← hx]; rfl
          have HR := Lib.hid hrel2
          have ub := u8_bd s[k]
          have k0 : (0 : Int) ≤ (k : Int) := by omega
          have hbs := hb.size
          have HREL : Hid (∀ (x : LX.Bs) (v' : Value) (w' : World), LX.qc s[k] = x → w'.ownsRow w.heap.size 5 1 v' (A.length + x.length) ((A ++ x).map bc) → w'.ownsRow w.heap.size 5 1 v' (34 :: LX.qbody ((bs s).take (k + 1))).length ((34 :: LX.qbody ((bs s).take (k + 1))).map bc)) := fun x v' w' hx ho => by
            rw [hrel2 x hx, List.length_append]; exact ho
          clear hsuc hlen hB hA hrel2 HR
          by_cases h10 : s[k].toNat = 10
          · have hr : Hid (LX.qc s[k] = [42, 110]) := by show _ = _; unfold LX.qc; rw [if_pos h10]
            have f1 := eqT (c := s[k]) 10 (by omega)
            clear h10
            go_wp2_with (at_builtin; refine Lib.wpList_append_own_string _ (by rfl) _ _ _ _ (by rfl) w.heap.size 5 ti Tryd.underlying58 Tryd.underlying9 HI.out.1 HI.out.2.1 HI.out.2.2.1 HI.out.2.2.2 (.slice sa A.length sc) A.length (A.map bc) (by rfl) hown ⟨#[42, 110]⟩ (by rfl) (by show A.length + 2 ≤ _; unfold maxLen; omega) (by show A.length + 2 ≤ _; omega) (by omega) ?_; intro v4 w4 hown4 hgr4 _)
            all_goals first
              | (exfalso; simp_all; done)
              | (exfalso; simp_all; omega)
              | (go_roundw
                 case rel => exact ⟨k + 1, by omega, by go_num, HREL.out _ _ _ hr.out (by rw [List.map_append]; exact hown4), hb.grown hgr4 (by omega) (fun kk e => (hown.lt kk e).1)⟩
                 case measure => simp [intOf]; omega)
          have f1 := eqF (c := s[k]) 10 (by omega)
          by_cases h9 : s[k].toNat = 9
          · have hr : Hid (LX.qc s[k] = [42, 116]) := by show _ = _; unfold LX.qc; rw [if_neg h10, if_pos h9]
            have f2 := eqT (c := s[k]) 9 (by omega)
            clear h10 h9
            go_wp2_with (at_builtin; refine Lib.wpList_append_own_string _ (by rfl) _ _ _ _ (by rfl) w.heap.size 5 ti Tryd.underlying58 Tryd.underlying9 HI.out.1 HI.out.2.1 HI.out.2.2.1 HI.out.2.2.2 (.slice sa A.length sc) A.length (A.map bc) (by rfl) hown ⟨#[42, 116]⟩ (by rfl) (by show A.length + 2 ≤ _; unfold maxLen; omega) (by show A.length + 2 ≤ _; omega) (by omega) ?_; intro v4 w4 hown4 hgr4 _)
            all_goals first
              | (exfalso; simp_all; done)
              | (exfalso; simp_all; omega)
              | (go_roundw
                 case rel => exact ⟨k + 1, by omega, by go_num, HREL.out _ _ _ hr.out (by rw [List.map_append]; exact hown4), hb.grown hgr4 (by omega) (fun kk e => (hown.lt kk e).1)⟩
                 case measure => simp [intOf]; omega)
          have f2 := eqF (c := s[k]) 9 (by omega)
          by_cases h42 : s[k].toNat = 42
          · have hr : Hid (LX.qc s[k] = [42, s[k]]) := by show _ = _; unfold LX.qc; rw [if_neg h10, if_neg h9, if_pos (.inl h42)]
            have f3 := eqT (c := s[k]) 42 (by omega)
            clear h10 h9 h42
            go_wp2_with (at_builtin; refine wpList_append_mem (by rfl) _ _ _ (by rfl) w.heap.size 5 ti Tryd.underlying58 HI.out (.slice sa A.length sc) A.length A (by rfl) hown [42, s[k]] #[.int .u8 42, .int .u8 (s[k].toNat : Int)] (by rfl) 2 (by rfl) (by decide) (by decide) _ rfl (by rfl) (by omega) (by omega) ?_; intro v4 w4 hown4 hb4 hsz4)
            all_goals first
              | (exfalso; simp_all; done)
              | (exfalso; simp_all; omega)
              | (go_roundw
                 case rel => exact ⟨k + 1, by omega, by go_num, HREL.out _ _ _ hr.out hown4, hb4 _ _ hb (Nat.le_refl _)⟩
                 case measure => simp [intOf]; omega)
          have f3 := eqF (c := s[k]) 42 (by omega)
          by_cases h34 : s[k].toNat = 34
          · have hr : Hid (LX.qc s[k] = [42, s[k]]) := by show _ = _; unfold LX.qc; rw [if_neg h10, if_neg h9, if_pos (.inr h34)]
            have f4 := eqT (c := s[k]) 34 (by omega)
            clear h10 h9 h42 h34
            go_wp2_with (at_builtin; refine wpList_append_mem (by rfl) _ _ _ (by rfl) w.heap.size 5 ti Tryd.underlying58 HI.out (.slice sa A.length sc) A.length A (by rfl) hown [42, s[k]] #[.int .u8 42, .int .u8 (s[k].toNat : Int)] (by rfl) 2 (by rfl) (by decide) (by decide) _ rfl (by rfl) (by omega) (by omega) ?_; intro v4 w4 hown4 hb4 hsz4)
            all_goals first
              | (exfalso; simp_all; done)
              | (exfalso; simp_all; omega)
              | (go_roundw
                 case rel => exact ⟨k + 1, by omega, by go_num, HREL.out _ _ _ hr.out hown4, hb4 _ _ hb (Nat.le_refl _)⟩
                 case measure => simp [intOf]; omega)
          have f4 := eqF (c := s[k]) 34 (by omega)
          have hr : Hid (LX.qc s[k] = [s[k]]) := by show _ = _; unfold LX.qc; rw [if_neg h10, if_neg h9, if_neg (by omega)]
          clear h10 h9 h42 h34
          go_wp2_with (at_builtin; refine wpList_append_mem (by rfl) _ _ _ (by rfl) w.heap.size 5 ti Tryd.underlying58 HI.out (.slice sa A.length sc) A.length A (by rfl) hown [s[k]] #[.int .u8 (s[k].toNat : Int)] (by rfl) 1 (by rfl) (by decide) (by decide) _ rfl (by rfl) (by omega) (by omega) ?_; intro v4 w4 hown4 hb4 hsz4)
          all_goals first
            | (exfalso; simp_all; done)
            | (exfalso; simp_all; omega)
            | (go_roundw
               case rel => exact ⟨k + 1, by omega, by go_num, HREL.out _ _ _ hr.out hown4, hb4 _ _ hb (Nat.le_refl _)⟩
               case measure => simp [intOf]; omega)
        · obtain rfl : k = s.size := by omega
          have hlen := LX.qbody_take (bs s) s.size
          rw [HL.out] at hlen
          obtain ⟨B, hB⟩ : ∃ B, LX.qbody ((bs s).take s.size) = B := ⟨_, rfl⟩
          rw [hB] at hlen hown
          have hB1 : (34 :: B).length ≤ 201 := by simp; omega
          obtain ⟨sa, sc, rfl⟩ := owns_form hown
          obtain ⟨A, hA⟩ : ∃ A, 34 :: B = A := ⟨_, rfl⟩
          rw [hA] at hown hB1 ⊢
          have hq : Hid (LX.quote (bs s) = A ++ [34]) := by show _ = _; unfold LX.quote; rw [← hA, ← hB, hqb.out]; rfl
          have hbs := hb.size
          clear hlen hB hA
          go_wp2_with (at_builtin; refine wpList_append_mem (by rfl) _ _ _ (by rfl) w.heap.size 5 ti Tryd.underlying58 HI.out (.slice sa A.length sc) A.length A (by rfl) hown [34] #[.int .u8 34] (by rfl) 1 (by rfl) (by decide) (by decide) _ rfl (by rfl) (by omega) (by omega) ?_; intro v4 w4 hown4 hb4 hsz4; have hcv := conv_own w4 w.heap.size v4 (A ++ [34]) (by rw [List.length_append]; exact hown4))
          go_ret2
          exact ⟨by rw [hr.out, hq.out]; rfl, hb4 _ _ hb (Nat.le_refl _)⟩
end Go.Proofs.YtfnkafnjpldaoaaDoor
