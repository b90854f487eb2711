/- The program's scanner: strings. -/
import Derived.Test.YtpcepfoebkmbgaaDoorLxMChar
import Derived.Test.YtpcepfoebkmbgaaDoorLxRefT
namespace Go.Proofs.YtpcepfoebkmbgaaDoor
open Go.RowKit
set_option linter.unusedVariables false
theorem wpList_append_grow {P : Program} {W : World} {ops : Array Oper} {rest : List Oper} {o : Oper} {a : Act} {Q : Exit → Act → World → Prop} (hgd : o.guard = none) (s x : Operand) (t : TypeId)
    (ho : o.op = .call { callee := .builtin .append, args := #[s, x], argTypes := #[t, t] })
    (base : Nat) (e : TypeId) (i : TypeInfo) (z : Value) (size bytes : Nat) (ht : P.underlying t = some (.slice e)) (hI : P.info? e = some i ∧ i.zero = some z ∧ i.size = size ∧ i.bytes = bytes) (hby : bytes ≤ 64) (hz : z.cells.size = size) (hsz : 0 < size)
    (v : Value) (n : Nat) (xs : List Value) (hs : a.eval s = v) (hown : W.ownsRow base e size v n xs) (cs : List Value) (hcs : cs.length = size) (h1c : ∀ u ∈ cs, u.oneCell' = true) (H : Nat) (hH : W.heap.size = H) (hx : a.eval x = .slice (some ⟨H, 0, none⟩) 1 1)
    (hn : n ≤ 1000000) (hbase : base ≤ W.heap.size)
    (h : ∀ v' w', w'.ownsRow base e size v' (n + 1) (xs ++ cs) → (W.alloc (.cells cs.toArray e)).grownBy w' v.ownBlock → wpList P ops Q rest (a.put o.dst v') w') :
    wpList P ops Q (o :: rest) a (W.alloc (.cells cs.toArray e)) := by
  subst hH
  obtain ⟨h1, h2, h3, h4⟩ := hI
  refine wpList_append_lies _ hgd s x t ho base e i z size bytes ht h1 h2 h3 h4 hz hsz v n _ hs (hown.alloc _) ⟨W.heap.size, 0, none⟩ 1 1 cs hx (by omega) ?_ h1c (by decide) ?_ ?_ ?_ _ rfl ?_
  · intro jj y hy
    rw [add_plain, Nat.zero_add]
    refine (World.cell?_alloc_at _ _ _ _ rfl).trans ?_
    simpa using hy
  · unfold maxLen; omega
  · have : (n + 1) * bytes ≤ 1000001 * 64 := Nat.mul_le_mul (by omega) hby
    omega
  · simp; omega
  · intro g cap w' hown' hgr hat _
    exact h _ w' hown' hgr
theorem only_grown {W1 W w' : World} {b : Nat} {v : Value} {o : Obj} (h : W1.grownBy W (some b)) (hg : (W.alloc o).grownBy w' v.ownBlock) (hv : ∀ k, v.ownBlock = some k → W1.heap.size ≤ k) : W1.grownBy w' (some b) := by
  have h1 := only_alloc h o
  refine ⟨hg.os.trans h1.os, hg.tape.trans h1.tape, hg.output.trans h1.output, Nat.le_trans h1.size hg.size, fun i hi hne => ?_⟩
  refine (hg.block i (Nat.lt_of_lt_of_le hi h1.size) ?_).trans (h1.block i hi hne)
  intro e
  have := hv i e.symm
  omega
theorem Scn.block {w w' : World} {b : Nat} {s : ByteArray} {p q : Nat} {km sg : Value} (h : Scn w b s p q km sg) (e : w'.heap[b]? = w.heap[b]?) : Scn w' b s p q km sg := by
  obtain ⟨h0, h1, h2, h3, h4, h5⟩ := h
  exact ⟨(World.cell?_of_block e).trans h0, (World.cell?_of_block e).trans h1, (World.cell?_of_block e).trans h2, (World.cell?_of_block e).trans h3, (World.cell?_of_block e).trans h4, fun o => (World.frozen?_of_block e).trans (h5 o)⟩
theorem Scn.grown {W w' : World} {b : Nat} {s : ByteArray} {p q : Nat} {km sg : Value} {v : Value} {o : Obj} (h : Scn W b s p q km sg) (hg : (W.alloc o).grownBy w' v.ownBlock) (hv : v.ownBlock ≠ some b) : Scn w' b s p q km sg :=
  (h.alloc o).block (hg.block b (h.alloc o).lt (fun e => hv e.symm))
theorem u8_info : (Tryd.prog.info? 5).map (fun i => (i.zero, i.size, i.bytes)) = some (some (.int .u8 0), 1, 1) := by kernel_rfl
def bc (c : UInt8) : Value := .int .u8 (c.toNat : Int)
theorem conv_own (W : World) (base : Nat) (v : Value) (acc : LX.Bs) (hown : W.ownsRow base 5 1 v acc.length (acc.map bc)) : (convert 37 9 v).run Tryd.prog W = .ok (.string ⟨acc.toArray⟩) W := by
  rcases hown.2 with ⟨rfl, h0⟩ | ⟨g, cap, cur, rfl, hb, hg, h1, h2, h3, h4⟩
  · have : acc = [] := List.length_eq_zero_iff.1 h0
    subst this
    rw [run_convert_bytes_string W 37 9 5 none 0 0 Tryd.underlying37 Tryd.underlying5 Tryd.underlying9]
    simp [Conv.bytesToString]; rfl
  · refine run_convert_bytes_back _ _ _ _ ⟨g, 0, none⟩ cap acc Tryd.underlying37 Tryd.underlying5 Tryd.underlying9 ?_
    intro j hj
    rw [add_plain, Nat.zero_add, hown.cellAt j (by omega)]
    simp [hj, bc]
set_option maxHeartbeats 1000000 in
theorem text_c (s : ByteArray) (b p : Nat) (km sg : Value) (w : World) (hs : s.size ≤ 1000000) (hp : p < s.size) (hS : Scn w b s p p km sg) :
    Calls Tryd.prog 47 #[.pointer (some ⟨b, 0, none⟩)] w fun e w' => TokM (LX.textR (tl s (p + 1))) e w' b s p km sg ∧ w.grownBy w' (some b) := by
  obtain ⟨ti, hi1, hi2, hi3, hi4⟩ := info_parts u8_info
  have hI : Tryd.prog.info? 5 = some ti ∧ ti.zero = some (.int .u8 0) ∧ ti.size = 1 ∧ ti.bytes = 1 := ⟨hi1, hi2, hi3, hi4⟩
  have HI := Lib.hid hI
  clear hI hi1 hi2 hi3 hi4
  have hl := hS.lt
  have HS := Lib.hid hS
  obtain ⟨c0, c1, c2, c3, c4, c5⟩ := hS
  have k0 : (0 : Int) ≤ (p : Int) := by omega
  have hne : w.heap.size ≠ b := by omega
  have HS1 : Hid (∀ o, Scn ((w.setCell ⟨b, 2, none⟩ (.int .i64 ((p : Int) + 1))).alloc o) b s p (p + 1) km sg) := fun o => (HS.out.setNext _ _ (by omega)).alloc o
  go_enter Tryd.func47, Tryd.ntmps47
  go_wp2
  obtain ⟨W1, hW1⟩ : ∃ W1, W1 = (w.setCell ⟨b, 2, none⟩ (.int .i64 ((p : Int) + 1))).alloc (.cells #[.int .i64 0, .string ⟨#[]⟩, .int .i64 0, .int .i64 0] 32) := ⟨_, rfl⟩
  have HW1 := Lib.hid hW1
  have hg1 : w.grownBy W1 (some b) := by rw [hW1]; exact only_alloc (only_setCell (only_refl w b) (.inl rfl) _) _
  have hz1 : W1.heap.size = w.heap.size + 1 := by rw [hW1]; simp [World.setCell]
  have hS1 : Scn W1 b s p (p + 1) km sg := by rw [hW1]; exact HS1.out _
  rw [← hW1]
  have HZ1 := Lib.hid hz1
  clear c0 c1 c2 c3 c4 c5 hW1 hz1
  go_loopw [4] (fun v wr => ∃ (j : Nat) (acc : LX.Bs), j ≤ s.size ∧ acc.length ≤ s.size ∧ Hid (StrAt s p j acc) ∧ Scn wr b s p j km sg ∧ wr.ownsRow (w.heap.size + 1) 5 1 v acc.length (acc.map bc) ∧ W1.grownBy wr (some b)) (fun _ wr => s.size - nextOf wr b)
  case atStart => exact ⟨p + 1, [], by omega, by simp, StrAt.start s p, hS1, ⟨by simp, .inl ⟨rfl, rfl⟩⟩, only_refl _ _⟩
  case round =>
    obtain ⟨j, acc, hj, hac, hq, hS2, hown, hg⟩ := hrel
    obtain ⟨sa, sc, rfl⟩ := owns_form hown
    have HN := Lib.hid hS2.next
    have HS2 := Lib.hid hS2
    have hl2 := hS2.lt
    obtain ⟨c0, c1, c2, c3, c4, c5⟩ := hS2
    have j0 : (0 : Int) ≤ (j : Int) := by omega
    have hob : ∀ k, (Value.slice sa acc.length sc).ownBlock = some k → w.heap.size + 1 ≤ k := fun k e => (hown.lt k e).1
    have hobb : (Value.slice sa acc.length sc).ownBlock ≠ some b := fun e => by have := hob b e; omega
    have hres := res_of (X := w.setCell ⟨b, 2, none⟩ (.int .i64 ((p : Int) + 1))) (r := w.heap.size) (by simp [World.setCell]) (HW1.out ▸ hg) hne
    have HRES := Lib.hid hres
    clear hres
    by_cases h34 : ∃ h : j < s.size, s[j].toNat = 34
    · obtain ⟨hjl, h34⟩ := h34
      have hg0 : Hid (LX.strG false (tl s j) = some ([], 1)) := strG_quote s j hjl h34
      have f1 := neF (c := s[j]) 34 (by omega)
      have g1 : decide ((j : Int) < (s.size : Int)) = true := by rw [decide_eq_true_iff]; omega
      have g2 := intEqF (a := (j : Int)) (b := (s.size : Int)) (by omega)
      obtain ⟨r0, r1, r2, r3, r4, hr6⟩ := HRES.out
      have hpj : p + 1 ≤ j := hq.out.1
      clear h34
      by_cases h100 : 100 < acc.length
      · have hr : Hid (LX.textR (tl s (p + 1)) = .bad 2) := hq.out.long hg0.out h100
        have h1' : (100 : Int) < (acc.length : Int) := by omega
        clear h100
        go_wp2
        go_quiet (fail)
        go_wp2
        go_quiet (fail)
        go_wp2
        exact bodyPost_ret (v := .tuple #[.agg #[.int .i64 0, .string ⟨#[]⟩, .int .i64 0, .int .i64 0], .int .i64 2]) (by simp [results, Tryd.results47, go_sem, r0, r1, r2, r3]) rfl ⟨.bad (q := j + 1) hr.out rfl (by repeat (first | (with_reducible refine Scn.farR _ _ hne _ ?_) | (with_reducible exact (HS2.out.drewN _).setNext _ _ (Int.natCast_succ _).symm))), (by repeat (first | (with_reducible refine only_setR _ _ (Nat.le_refl _) _ ?_) | (with_reducible exact only_setCell (only_drewN (only_trans hg1 hg) _) (.inl rfl) _)))⟩
      · have hr : Hid (LX.textR (tl s (p + 1)) = .good 3 acc 0 (j - p + 1)) := hq.out.good hg0.out h100
        have h1' : ¬ (100 : Int) < (acc.length : Int) := by omega
        have hcv : ∀ (n : Nat) (x : Value), (convert 37 9 (.slice sa acc.length sc)).run Tryd.prog ((wr.drewN n).setCell ⟨b, 2, none⟩ x) = .ok (.string ⟨acc.toArray⟩) ((wr.drewN n).setCell ⟨b, 2, none⟩ x) := fun n x => conv_own _ (w.heap.size + 1) _ acc (hown.kept (only_setCell (only_drewN (only_refl _ b) _) (.inl rfl) _) (.inr hobb))
        clear h100
        go_wp2
        go_quiet (fail)
        go_wp2
        go_quiet (fail)
        go_wp2
        exact bodyPost_ret (v := .tuple #[.agg #[.int .i64 3, .string ⟨acc.toArray⟩, .int .i64 0, .int .i64 0], .int .i64 0]) (by simp [results, Tryd.results47, go_sem, r0, r1, r2, r3]) rfl ⟨.good hr.out rfl rfl rfl (by omega : j + 1 = p + (j - p + 1)) (by repeat (first | (with_reducible refine Scn.farR _ _ hne _ ?_) | (with_reducible exact (HS2.out.drewN _).setNext _ _ (Int.natCast_succ _).symm))), (by repeat (first | (with_reducible refine only_setR _ _ (Nat.le_refl _) _ ?_) | (with_reducible exact only_setCell (only_drewN (only_trans hg1 hg) _) (.inl rfl) _)))⟩
    · cases hlt : LX.letter 34 (tl s j) with
      | none =>
        have hn : LX.strG false (tl s j) = none := strG_none s j (fun h h2 => h34 ⟨h, h2⟩) hlt
        have hr : Hid (LX.textR (tl s (p + 1)) = .bad 21) := hq.out.none hn
        have HC := Lib.hid (fun (W : World) (h : Scn W b s p j km sg) => part_no 34 34 rfl s b p j km sg W hs hj h hlt)
        have hcond : (∃ hjl : j < s.size, ((s[j].toNat : Int) != 34) = true) ∨ ¬ j < s.size := by
          by_cases hjl : j < s.size
          · exact .inl ⟨hjl, neT (c := s[j]) 34 (fun h => h34 ⟨hjl, by omega⟩)⟩
          · exact .inr hjl
        clear hlt h34 hn
        rcases hcond with ⟨hjl, f1⟩ | hjl
        · have g1 : decide ((j : Int) < (s.size : Int)) = true := by rw [decide_eq_true_iff]; omega
          go_wp2
          go_quiet (fail)
          go_wp2_with (go_at_call 62; refine (HC.out _ (HS2.out.drewN _)).mono ?_; rintro e w3 ⟨a3, q3, rfl, hS3, hg3⟩; have hg13 := only_trans (only_drewN hg _) hg3; obtain ⟨r0, r1, r2, r3, r4, hr6⟩ := res_of (X := w.setCell ⟨b, 2, none⟩ (.int .i64 ((p : Int) + 1))) (r := w.heap.size) (by simp [World.setCell]) (HW1.out ▸ hg13) hne)
          exact bodyPost_ret (v := .tuple #[.agg #[.int .i64 0, .string ⟨#[]⟩, .int .i64 0, .int .i64 0], .int .i64 21]) (by simp [results, Tryd.results47, go_sem, r0, r1, r2, r3]) rfl ⟨.bad (q := q3) hr.out rfl (by repeat (first | (with_reducible refine Scn.farR _ _ hne _ ?_) | (with_reducible exact hS3))), (by repeat (first | (with_reducible refine only_setR _ _ (Nat.le_refl _) _ ?_) | (with_reducible exact only_trans hg1 hg13)))⟩
        · have g1 : decide ((j : Int) < (s.size : Int)) = false := by rw [decide_eq_false_iff_not]; omega
          have g2 := intEqT (a := (j : Int)) (b := (s.size : Int)) (by omega)
          obtain ⟨r0, r1, r2, r3, r4, hr6⟩ := HRES.out
          go_wp2
          go_quiet (fail)
          go_wp2
          go_quiet (fail)
          go_wp2
          exact bodyPost_ret (v := .tuple #[.agg #[.int .i64 0, .string ⟨#[]⟩, .int .i64 0, .int .i64 0], .int .i64 21]) (by simp [results, Tryd.results47, go_sem, r0, r1, r2, r3]) rfl ⟨.bad (q := j) hr.out rfl (by repeat (first | (with_reducible refine Scn.farR _ _ hne _ ?_) | (with_reducible exact HS2.out.drewN _))), (by repeat (first | (with_reducible refine only_setR _ _ (Nat.le_refl _) _ ?_) | (with_reducible exact only_drewN (only_trans hg1 hg) _)))⟩
      | some x =>
        obtain ⟨d, n⟩ := x
        obtain ⟨hn1, hn2⟩ := letter_fits hlt
        have hq2 : Hid (StrAt s p (j + n) (acc ++ [d])) := hq.out.more hlt
        obtain ⟨j2, hj2⟩ : ∃ j2, j + n = j2 := ⟨_, rfl⟩
        rw [hj2] at hn2 hq2
        have HJ := Lib.hid hj2
        have HC := Lib.hid (fun (W : World) (h : Scn W b s p j km sg) => part_yes 34 34 rfl s b p j km sg W hs hj h d n j2 hlt hj2)
        have hlt2 : j < s.size := by omega
        have f1 := neT (c := s[j]) 34 (fun h => h34 ⟨hlt2, by omega⟩)
        have g1 : decide ((j : Int) < (s.size : Int)) = true := by rw [decide_eq_true_iff]; omega
        obtain ⟨hd1, hd2⟩ := u8_bd d
        have hjj : j < j2 := by omega
        clear hlt h34 hj2
        go_wp2
        go_quiet (fail)
        go_wp2_with (first
          | (go_at_call 62; refine (HC.out _ (HS2.out.drewN _)).mono ?_; rintro e w3 ⟨rfl, hS3, hg3⟩; have hown3 := (hown.kept (only_trans (only_drewN (only_refl _ b) _) hg3) (.inr hobb)); have hg13 := only_trans (only_drewN hg _) hg3)
          | (at_builtin; refine wpList_append_grow (by rfl) _ _ _ (by rfl) (w.heap.size + 1) 5 ti _ 1 1 Tryd.underlying37 HI.out (by decide) rfl (by decide) (.slice sa acc.length sc) acc.length (acc.map bc) (by rfl) hown3 [.int .u8 (d.toNat : Int)] rfl (by simp [Value.oneCell']) w3.heap.size rfl (by rfl) (by omega) (by have := hg13.size; have := HZ1.out; omega) ?_; intro v4 w4 hown4 hgr4))
        go_roundw
        case rel => exact ⟨j2, acc ++ [d], hn2, by have := hq2.out.2.1; omega, hq2, hS3.grown hgr4 hobb, by simpa [bc] using hown4, only_grown hg13 hgr4 (fun k e => by have := hob k e; have := HZ1.out; omega)⟩
        case measure => rw [(hS3.grown hgr4 hobb).next, HN.out]; omega
end Go.Proofs.YtpcepfoebkmbgaaDoor
