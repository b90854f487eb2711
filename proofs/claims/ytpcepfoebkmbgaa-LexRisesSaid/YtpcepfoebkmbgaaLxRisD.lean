/- The law LexRises: the cut at a token. -/
import Derived.Test.YtpcepfoebkmbgaaLxRisA
import Derived.Deep.AppendLies
import Derived.Deep.RegionLawGrows
namespace Go.Proofs.Ytpcepfoebkmbgaa
open Go.RowKit
set_option linter.unusedVariables false
theorem step_append_fresh {P : Program} {W : World} {ops : Array Oper} {o : Oper} {a : Act} {K : Act → World → Prop} {Q : Exit → Act → World → Prop} {E : Prop} (hgd : o.guard = none) (s x : Operand) (t : TypeId)
    (ho : o.op = .call { callee := .builtin .append, args := #[s, x], argTypes := #[t, t] })
    (e : TypeId) (i : TypeInfo) (z : Value) (size bytes : Nat) (ht : P.underlying t = some (.slice e)) (hI : P.info? e = some i ∧ i.zero = some z ∧ i.size = size ∧ i.bytes = bytes) (hby : bytes ≤ 64) (hz : z.cells.size = size) (hsz : 0 < size)
    (hs : a.eval s = .slice none 0 0) (b off m c : Nat) (hx : a.eval x = .slice (some ⟨b, off, none⟩) m c) (news : List Value) (hl : news.length = m * size) (hnews : ∀ j u, news[j]? = some u → W.cell? ⟨b, off + j, none⟩ = some u) (h1c : ∀ u ∈ news, u.oneCell' = true) (hm : m ≤ 1000000)
    (h : ∀ v' w', w'.ownsRow W.heap.size e size v' m news → Below W.heap.size W w' → K (a.put o.dst v') w') : if Region.wanted o (yielded ops a.tmps) = true then Oper.wp P o a W K Q else E := by
  obtain ⟨h1, h2, h3, h4⟩ := hI
  by_cases h0 : m = 0
  · subst h0
    obtain rfl : news = [] := List.eq_nil_of_length_eq_zero (by simpa using hl)
    have hw : Region.wanted o (yielded ops a.tmps) = true := by simp [Region.wanted, hgd]
    rw [if_pos hw]
    have hrun : (Builtin.append_ #[t, t] o.type #[.slice none 0 0, .slice (some ⟨b, off, none⟩) 0 c]).run P W = .ok (.slice none 0 0) W := by
      simp [Builtin.append_, run_underlying ht, sizeOf, typeInfo, h1, Builtin.lenOf, Builtin.firstCells, loadCells, loadCellsFrom]
    unfold Oper.wp
    simp [execOp, ho, resolve, invoke, builtin, hs, hx, hrun, Result.andThen]
    exact h _ W (World.ownsRow_nil W _ e size) (Below.refl _ _)
  · have hbb : m * bytes ≤ 1000000 * 64 := Nat.mul_le_mul hm hby
    refine step_append_grows hgd s x t ho e i z size bytes ht h1 h2 h3 h4 hz hsz none 0 0 [] hs (fun _ => ⟨rfl, rfl⟩) (by simp) (fun b h => by cases h) ⟨b, off, none⟩ m c news hx hl (fun j u hj => by rw [add_plain]; exact hnews j u hj) h1c (by omega) (by unfold maxLen; omega) (by rw [Nat.zero_add]; omega) ?_
    intro v' w' hown hg
    exact h v' w' (by simpa using hown) (below_of_grown hg)
theorem step_append_row {P : Program} {W : World} {ops : Array Oper} {o : Oper} {a : Act} {K : Act → World → Prop} {Q : Exit → Act → World → Prop} {E : Prop} (hgd : o.guard = none) (s x : Operand) (t : TypeId)
    (ho : o.op = .call { callee := .builtin .append, args := #[s, x], argTypes := #[t, t] })
    (base : Nat) (e : TypeId) (i : TypeInfo) (z : Value) (size bytes : Nat) (ht : P.underlying t = some (.slice e)) (hI : P.info? e = some i ∧ i.zero = some z ∧ i.size = size ∧ i.bytes = bytes) (hby : bytes ≤ 64) (hz : z.cells.size = size) (hsz : 0 < size)
    (v : Value) (n : Nat) (xs : List Value) (hs : a.eval s = v) (hown : W.ownsRow base e size v n xs) (cs : List Value) (hcs : cs.length = size) (h1c : ∀ u ∈ cs, u.oneCell' = true) (B : Nat) (hB : ∀ j u, cs[j]? = some u → W.cell? ⟨B, j, none⟩ = some u) (hx : a.eval x = .slice (some ⟨B, 0, none⟩) 1 1)
    (hn : n ≤ 1000000) (hbase : base ≤ W.heap.size)
    (h : ∀ v' w', w'.ownsRow base e size v' (n + 1) (xs ++ cs) → (∀ C w0, Below C w0 W → C ≤ base → Below C w0 w') → K (a.put o.dst v') w') :
    if Region.wanted o (yielded ops a.tmps) = true then Oper.wp P o a W K Q else E := by
  obtain ⟨h1, h2, h3, h4⟩ := hI
  refine step_append_lies (w := W) hgd s x t ho base e i z size bytes ht h1 h2 h3 h4 hz hsz v n _ hs hown ⟨B, 0, none⟩ 1 1 cs hx (by omega) (fun j u hj => by rw [add_plain, Nat.zero_add]; exact hB j u hj) h1c (by decide) ?_ ?_ hbase _ rfl ?_
  · unfold maxLen; omega
  · have : (n + 1) * bytes ≤ 1000001 * 64 := Nat.mul_le_mul (by omega) hby
    omega
  · intro g cap w' hown' hgr hat _
    exact h _ w' hown' (fun C w0 hC hle => hC.grown hgr (Nat.le_trans hle hbase) (fun kk ee => Nat.le_trans hle ((hown.lt kk ee).1)))
set_option maxHeartbeats 4000000 in
theorem rises_d (s0 : ByteArray) (a1 : Int) (w : World) (ua : List LX.Tok) (m : Nat) (hr : LX.scan (bs s0) = .good ua) (hm : m + 1 = ua.length) (n1 : ua.length ≤ 1000001) (x p : Nat) (hk : a1 = (x : Int)) (hxl : x < ua.length) (hp : (ua.getD x tz).pos = p) (hps : p ≤ s0.size) (hc : LX.scan (bs (s0.extract 0 p)) = .good (ua.take x ++ [⟨0, [], 0, p⟩])) :
    Calls Try.prog 7 #[.string s0, .int .i64 a1] w fun e w' => e = .returned (.bool true) ∧ Below w.heap.size w w' := by
  have HC1 := Lib.hid (fun W => Scan_goodC hr W)
  have HR := Lib.hid (good_rise hr)
  have HE := Lib.hid (last_tok hr m hm)
  have HM : Hid (m < ua.length) := (by omega : m < ua.length)
  have HN1 : Hid (0 < ua.length) := (by omega : 0 < ua.length)
  have hm1 : (ua.length : Int) - 1 = (m : Int) := by omega
  have hz : ((ua.length : Int) == 0) = false := (ne0 _ (by omega)).1
  have m0 : (0 : Int) ≤ (m : Int) := by omega
  have m1 : (m : Int) < (ua.length : Int) := by omega
  have tok0 : True := trivial
  subst hk
  have HC2 := Lib.hid (fun W => Scan_good hc W)
  have g1 : decide ((x : Int) < (0 : Int)) = false := by rw [decide_eq_false_iff_not]; omega
  have g2 : decide ((ua.length : Int) ≤ (x : Int)) = false := by rw [decide_eq_false_iff_not]; omega
  have x0 : (0 : Int) ≤ (x : Int) := by omega
  have x1 : (x : Int) < (ua.length : Int) := by omega
  have p0 : (0 : Int) ≤ (p : Int) := by omega
  have p1 : (p : Int) ≤ (s0.size : Int) := by omega
  have HXL : Hid (x < ua.length) := hxl
  have HPX := Lib.hid hp
  obtain ⟨ti, hi1, hi2, hi3, hi4⟩ := info_parts tok_info
  have hI : Try.prog.info? 36 = some ti ∧ ti.zero = some (.agg #[.int .i64 0, .string ⟨#[]⟩, .int .i64 0, .int .i64 0]) ∧ ti.size = 4 ∧ ti.bytes = 40 := ⟨hi1, hi2, hi3, hi4⟩
  have HI := Lib.hid hI
  clear hr hm hc hxl hp hps hi1 hi2 hi3 hi4 hI
  go_enter Try.func7, Try.ntmps7
  go_wp2_with (first
    | (go_at_call 10; have _t := tok0; clear tok0; refine (HC1.out _).mono ?_; rintro e W1 ⟨v1, rfl, hr1, hcp1, hb1⟩; clear HC1; have tok1 : True := trivial; obtain ⟨b1, o1, cap1, rfl, hc1⟩ := hr1.open HN1.out; have hcap1 : (ua.length : Int) ≤ (cap1 : Int) := (by have h1 := hcp1 _ _ _ rfl; omega); have HD1 := Lib.hid hc1; obtain ⟨z0, z1, z2, z3⟩ := hc1 m HM.out; rw [HE.out] at z0 z1 z2 z3; simp at z0 z1 z2 z3; clear hr1 hcp1 hc1))
  go_loopw [8] (fun i wr => ∃ k j : Nat, k ≤ ua.length ∧ Hid (k = j + 1) ∧ i = .int .i64 k ∧ Below W1.heap.size W1 wr) (fun i _ => ua.length - (intOf i).toNat)
  case atStart => exact ⟨1, 0, by have := HN1.out; omega, (rfl : 1 = 0 + 1), rfl, Below.refl _ _⟩
  case round =>
    obtain ⟨k, j, hk, hkj, rfl, hbl⟩ := hrel
    by_cases hlt : k < ua.length
    · have hkj' := hkj.out
      have q1 := (rd_keep HD1.out hbl k hlt).2.2.2
      have q2 := (rd_keep HD1.out hbl j (by omega)).2.2.2
      have hp := HR.out j (by omega)
      rw [← hkj'] at hp
      generalize (ua.getD k tz).pos = pk at *
      generalize (ua.getD j tz).pos = pj at *
      have f1 : decide (pk < pj) = false := by rw [decide_eq_false_iff_not]; omega
      have f3 : (pk == pj) = false := by rw [beq_eq_false_iff_ne]; omega
      have f2 : ((pk : Int) == (pj : Int)) = false := by rw [beq_eq_false_iff_ne]; omega
      have k0 : (0 : Int) ≤ (k : Int) := by omega
      have k1 : (k : Int) < (ua.length : Int) := by omega
      have k2 : (k : Int) - 1 = (j : Int) := by omega
      have k3 : (0 : Int) ≤ (j : Int) := by omega
      have k4 : (j : Int) < (ua.length : Int) := by omega
      have kw : IntKind.i64.wrap (j : Int) = (j : Int) := by rw [IntWalk.i64_left]; exact wrap_nat j (by omega)
      clear hkj' hp hlt
      go_wp2
      go_quiet (fail)
      go_wp2
      go_roundw
      case rel => exact ⟨k + 1, k, by omega, (rfl : k + 1 = k + 1), by go_num, below_drewN hbl _⟩
      case measure => simp [intOf]; omega
    · obtain rfl : k = ua.length := by omega
      have q1 := (rd_keep HD1.out hbl x HXL.out).2.2.2
      rw [HPX.out] at q1
      have x2 : (x : Int) ≤ (cap1 : Int) := by have := HXL.out; omega
      go_wp2_with (first
        | (go_at_call 10; have _t := tok1; clear tok1; refine (HC2.out _).mono ?_; rintro e W2 ⟨v2, rfl, hr2, hb2⟩; clear HC2; have tok2 : True := trivial; have q2 := (hb2.cell (World.block_lt_of_cell? _ _ q1)).trans q1; have HR2 := Lib.hid hr2; have HDW := Lib.hid (rd_keep (rd_keep HD1.out hbl) hb2); clear hr2))
      go_region_held3 (fun w' => w'.cell? ⟨b1, o1 + x * 4 + 3, none⟩ = some (.int .i64 (p : Int)))
        (first | (refine (hb4.cell (World.block_lt_of_cell? _ _ (by assumption))).trans (by assumption)) | (refine (hb25.cell (World.block_lt_of_cell? _ _ (by assumption))).trans (by assumption)) | go_keep)
        ((first | (have _t := tokF; refine step_append_row (W := W4.alloc _) (by rfl) _ _ _ (by rfl) _ 36 ti _ 4 40 Try.underlying22 HI.out (by decide) rfl (by decide) v4 x ((ua.take x).flatMap tcells) (by rfl) (hown4.alloc _) [.int .i64 0, .string ⟨#[]⟩, .int .i64 0, .int .i64 (p : Int)] rfl (by simp [Value.oneCell']) W4.heap.size (by intro j u hy; exact (World.cell?_alloc_at _ _ _ _ rfl).trans (by simpa using hy)) (by rfl) (by have := HXL.out; omega) (by have := hb4.size; simp at this ⊢; omega) ?_; intro v5 W5 hown5 hbel5; have hb24 : Below W2.heap.size W2 W4 := (by first | exact hb4 | exact below_then (below_drewN (Below.refl _ _) 1) hb4); have hb25 := hbel5 W2.heap.size W2 (hb24.alloc hb24.size _) (Nat.le_refl _); clear tokF) | (have _t := tokF; refine step_append_row (W := W4) (by rfl) _ _ _ (by rfl) _ 36 ti _ 4 40 Try.underlying22 HI.out (by decide) rfl (by decide) v4 x ((ua.take x).flatMap tcells) (by rfl) hown4 [.int .i64 0, .string ⟨#[]⟩, .int .i64 0, .int .i64 (p : Int)] rfl (by simp [Value.oneCell']) W2.heap.size (by intro j u hy; exact (hb4.cell (p := ⟨W2.heap.size, j, none⟩) (by simp)).trans ((World.cell?_alloc_at _ _ _ _ rfl).trans (by simpa using hy))) (by rfl) (by have := HXL.out; omega) hb4.size ?_; intro v5 W5 hown5 hbel5; have hb24 : Below W2.heap.size W2 W4 := (by first | exact below_then (below_alloc _ _) hb4 | exact below_then (below_drewN (Below.refl _ _) 1) (below_then (below_alloc _ _) hb4)); have hb25 := hbel5 W2.heap.size W2 hb24 (by simp); clear tokF) | (refine step_append_fresh (by rfl) _ _ _ (by rfl) 36 ti _ 4 40 Try.underlying22 HI.out (by decide) rfl (by decide) (by rfl) b1 o1 x cap1 (by rfl) ((ua.take x).flatMap tcells) (by rw [tcells_len, List.length_take]; have := HXL.out; omega) (by first | exact rd_cells HDW.out x (Nat.le_of_lt HXL.out) | exact rd_cells (rd_keep HDW.out (below_alloc _ _)) x (Nat.le_of_lt HXL.out)) (tcells_one _) (by have := HXL.out; omega) ?_; intro v4 W4 hown4 hb4; have tokF : True := trivial)))
      all_goals (go_wp2_with (first
        | (go_at_call 12; refine (eqTokens_c _ _ (ua.take x ++ [⟨0, [], 0, p⟩]) _ (HR2.out.keep hb25) (RdT.of_owns (n := x + 1) (by rw [tcells_snoc]; exact hown5) (by have := HXL.out; rw [List.length_append, List.length_take]; simp; omega))).mono ?_; rintro e W6 ⟨rfl, hb6⟩)
        | (go_at_call 13; refine (awake_c _).mono ?_; rintro e W9 ⟨rfl, hb9⟩)))
      all_goals go_ret
      all_goals exact ⟨rfl, below_then hb1 (below_then hbl (below_then hb2 (below_then hb25 (below_then hb6 hb9))))⟩
end Go.Proofs.Ytpcepfoebkmbgaa
