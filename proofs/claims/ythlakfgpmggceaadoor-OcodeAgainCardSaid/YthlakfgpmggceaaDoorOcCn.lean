/- Copies of lists: the program's way (the library's Clone). -/
import Derived.Test.YthlakfgpmggceaaDoorOcCp
import Derived.Laws.Cover3
import Derived.Test.YthlakfgpmggceaaDoorLastJ
namespace Go.Proofs.YthlakfgpmggceaaDoor
open Go.RowKit
set_option linter.unusedVariables false
set_option linter.unusedSimpArgs false
theorem eqlNil (w : World) (t e : TypeId) (a : Option Addr) (l c : Nat) (h : Tryd.prog.underlying t = some (.slice e)) : (binOp .eql t (.slice a l c) (.slice none 0 0)).run Tryd.prog w = .ok (.bool a.isNone) w := by
  simp only [binOp]
  simp [run_equal_slice_nil w t e a l c h]
set_option maxRecDepth 100000 in
set_option maxHeartbeats 2000000 in
theorem CloneInts_c (a : Option Addr) (n c : Nat) (xs : List Int) (w : World) (h : Rd .i64 w (.slice a n c) xs) (hnx : n = xs.length) (hl : n ≤ 900000) :
    Calls Tryd.prog 100 #[.slice a n c] w fun e w' => (∃ v', e = .returned v' ∧ w'.ownsRow w.heap.size 3 1 v' n (xs.map (Value.int .i64))) ∧ Below w.heap.size w w' := by
  have hs : SrcC w a n c (xs.map (.int .i64)) := by
    obtain ⟨ad, c', hv, hs⟩ := srcC_ints h
    simp only [Value.slice.injEq] at hv
    obtain ⟨rfl, hv2, rfl⟩ := hv
    rw [hv2]; exact hs
  obtain ⟨i0, h1, h2, h3, h4⟩ := info_parts int_info
  have hI : Tryd.prog.info? 3 = some i0 ∧ i0.zero = some (.int .i64 0) ∧ i0.size = 1 ∧ i0.bytes = 8 := ⟨h1, h2, h3, h4⟩
  have HI := Lib.hid hI
  have HS := Lib.hid hs
  clear h1 h2 h3 h4 hI h hs
  have HL : Hid (((xs.map (Value.int .i64))).length = n * 1) := by show _ = _; rw [List.length_map, hnx, Nat.mul_one]
  cases a with
  | none =>
    have hn0 : n = 0 := by
      rcases HS.out with h | ⟨p, h1, -⟩
      · exact h.2.1
      · cases h1
    subst hn0
    have hnil : (xs.map (Value.int .i64)) = [] := List.length_eq_zero_iff.1 (by rw [HL.out, Nat.zero_mul])
    rw [hnil]
    have hnq : ∀ W, (binOp .eql 34 (.slice none 0 c) (.slice none 0 0)).run Tryd.prog W = .ok (.bool true) W := fun W => eqlNil W _ _ none 0 c Tryd.underlying34
    clear hnil HL HS HI
    (try clear hnx)
    (try clear hn)
    go_enter Tryd.func100, Tryd.ntmps100
    go_wp2
    all_goals go_ret
    all_goals exact ⟨⟨_, rfl, ⟨by simp, .inl ⟨rfl, rfl⟩⟩⟩, Below.refl _ _⟩
  | some p0 =>
    have hown1 := World.ownsRow_lit (base := w.heap.size) (e := 3) (size := 1) w #[] 0 (Nat.le_refl _) (by unfold maxLen; omega) rfl
    have HK : Hid (SrcC (w.alloc (.cells #[] 3)) (some p0) n c (xs.map (Value.int .i64))) := by
      rcases HS.out with h | ⟨p, h1, h2⟩
      · exact .inl h
      · exact .inr ⟨p, h1, fun j u hu => ((below_alloc w _).cell (World.block_lt_of_cell? _ _ (h2 j u hu))).trans (h2 j u hu)⟩
    have hnq : ∀ W, (binOp .eql 34 (.slice (some p0) n c) (.slice none 0 0)).run Tryd.prog W = .ok (.bool false) W := fun W => eqlNil W _ _ (some p0) n c Tryd.underlying34
    (try clear hnx)
    (try clear hn)
    go_enter Tryd.func100, Tryd.ntmps100
    go_wp2_with (at_builtin; refine wpList_append_rows rfl (.tmp 5) (.tmp 6) 34 rfl w.heap.size 3 i0 (.int .i64 0) 1 8 Tryd.underlying34 HI.out (by decide) rfl (by decide) _ 0 _ rfl hown1 (some p0) n c (xs.map (Value.int .i64)) rfl HL.out HK.out (fun u hu => by obtain ⟨x, _, rfl⟩ := List.mem_map.1 hu; rfl) (by omega) (by simp) ?_)
    · intro v' w' hown' hgr
      go_wp2
      go_ret
      refine ⟨⟨_, rfl, by simpa using hown'⟩, ?_⟩
      exact (below_alloc w _).grown hgr (by simp) (fun kk e => (hown1.lt kk e).1)
set_option maxRecDepth 100000 in
set_option maxHeartbeats 2000000 in
theorem CloneOps_c (a : Option Addr) (n c : Nat) (xs : List OC.Op) (w : World) (h : RdO w (.slice a n c) xs) (hl : n ≤ 40100) :
    Calls Tryd.prog 101 #[.slice a n c] w fun e w' => (∃ v', e = .returned v' ∧ w'.ownsRow w.heap.size 50 3 v' n (opCells xs)) ∧ Below w.heap.size w w' := by
  have hs := srcC_ops h
  have hn := h.len.1
  obtain ⟨i0, h1, h2, h3, h4⟩ := info_parts op_info
  have hI : Tryd.prog.info? 50 = some i0 ∧ i0.zero = some (.agg #[.int .i64 0, .int .i64 0, .int .i64 0]) ∧ i0.size = 3 ∧ i0.bytes = 24 := ⟨h1, h2, h3, h4⟩
  have HI := Lib.hid hI
  have HS := Lib.hid hs
  clear h1 h2 h3 h4 hI h hs
  have HL : Hid (((opCells xs)).length = n * 3) := by show _ = _; rw [opCells_len, hn]
  cases a with
  | none =>
    have hn0 : n = 0 := by
      rcases HS.out with h | ⟨p, h1, -⟩
      · exact h.2.1
      · cases h1
    subst hn0
    have hnil : (opCells xs) = [] := List.length_eq_zero_iff.1 (by rw [HL.out, Nat.zero_mul])
    rw [hnil]
    have hnq : ∀ W, (binOp .eql 23 (.slice none 0 c) (.slice none 0 0)).run Tryd.prog W = .ok (.bool true) W := fun W => eqlNil W _ _ none 0 c Tryd.underlying23
    clear hnil HL HS HI
    (try clear hnx)
    (try clear hn)
    go_enter Tryd.func101, Tryd.ntmps101
    go_wp2
    all_goals go_ret
    all_goals exact ⟨⟨_, rfl, ⟨by simp, .inl ⟨rfl, rfl⟩⟩⟩, Below.refl _ _⟩
  | some p0 =>
    have hown1 := World.ownsRow_lit (base := w.heap.size) (e := 50) (size := 3) w #[] 0 (Nat.le_refl _) (by unfold maxLen; omega) rfl
    have HK : Hid (SrcC (w.alloc (.cells #[] 50)) (some p0) n c (opCells xs)) := by
      rcases HS.out with h | ⟨p, h1, h2⟩
      · exact .inl h
      · exact .inr ⟨p, h1, fun j u hu => ((below_alloc w _).cell (World.block_lt_of_cell? _ _ (h2 j u hu))).trans (h2 j u hu)⟩
    have hnq : ∀ W, (binOp .eql 23 (.slice (some p0) n c) (.slice none 0 0)).run Tryd.prog W = .ok (.bool false) W := fun W => eqlNil W _ _ (some p0) n c Tryd.underlying23
    (try clear hnx)
    (try clear hn)
    go_enter Tryd.func101, Tryd.ntmps101
    go_wp2_with (at_builtin; refine wpList_append_rows rfl (.tmp 5) (.tmp 6) 23 rfl w.heap.size 50 i0 (.agg #[.int .i64 0, .int .i64 0, .int .i64 0]) 3 24 Tryd.underlying23 HI.out (by decide) rfl (by decide) _ 0 _ rfl hown1 (some p0) n c (opCells xs) rfl HL.out HK.out (opCells_one xs) (by omega) (by simp) ?_)
    · intro v' w' hown' hgr
      go_wp2
      go_ret
      refine ⟨⟨_, rfl, by simpa using hown'⟩, ?_⟩
      exact (below_alloc w _).grown hgr (by simp) (fun kk e => (hown1.lt kk e).1)
set_option maxRecDepth 100000 in
set_option maxHeartbeats 2000000 in
theorem CloneEnts_c (a : Option Addr) (n c : Nat) (xs : List OC.Ent) (w : World) (h : RdE w (.slice a n c) xs) (hl : n ≤ 400) :
    Calls Tryd.prog 102 #[.slice a n c] w fun e w' => (∃ v', e = .returned v' ∧ w'.ownsRow w.heap.size 66 2 v' n (entCells xs)) ∧ Below w.heap.size w w' := by
  have hs := srcC_ents h
  have hn := h.len.1
  obtain ⟨i0, h1, h2, h3, h4⟩ := info_parts ent_info
  have hI : Tryd.prog.info? 66 = some i0 ∧ i0.zero = some (.agg #[.int .i64 0, .int .i64 0]) ∧ i0.size = 2 ∧ i0.bytes = 16 := ⟨h1, h2, h3, h4⟩
  have HI := Lib.hid hI
  have HS := Lib.hid hs
  clear h1 h2 h3 h4 hI h hs
  have HL : Hid (((entCells xs)).length = n * 2) := by show _ = _; rw [entCells_len, hn]
  cases a with
  | none =>
    have hn0 : n = 0 := by
      rcases HS.out with h | ⟨p, h1, -⟩
      · exact h.2.1
      · cases h1
    subst hn0
    have hnil : (entCells xs) = [] := List.length_eq_zero_iff.1 (by rw [HL.out, Nat.zero_mul])
    rw [hnil]
    have hnq : ∀ W, (binOp .eql 24 (.slice none 0 c) (.slice none 0 0)).run Tryd.prog W = .ok (.bool true) W := fun W => eqlNil W _ _ none 0 c Tryd.underlying24
    clear hnil HL HS HI
    (try clear hnx)
    (try clear hn)
    go_enter Tryd.func102, Tryd.ntmps102
    go_wp2
    all_goals go_ret
    all_goals exact ⟨⟨_, rfl, ⟨by simp, .inl ⟨rfl, rfl⟩⟩⟩, Below.refl _ _⟩
  | some p0 =>
    have hown1 := World.ownsRow_lit (base := w.heap.size) (e := 66) (size := 2) w #[] 0 (Nat.le_refl _) (by unfold maxLen; omega) rfl
    have HK : Hid (SrcC (w.alloc (.cells #[] 66)) (some p0) n c (entCells xs)) := by
      rcases HS.out with h | ⟨p, h1, h2⟩
      · exact .inl h
      · exact .inr ⟨p, h1, fun j u hu => ((below_alloc w _).cell (World.block_lt_of_cell? _ _ (h2 j u hu))).trans (h2 j u hu)⟩
    have hnq : ∀ W, (binOp .eql 24 (.slice (some p0) n c) (.slice none 0 0)).run Tryd.prog W = .ok (.bool false) W := fun W => eqlNil W _ _ (some p0) n c Tryd.underlying24
    (try clear hnx)
    (try clear hn)
    go_enter Tryd.func102, Tryd.ntmps102
    go_wp2_with (at_builtin; refine wpList_append_rows rfl (.tmp 5) (.tmp 6) 24 rfl w.heap.size 66 i0 (.agg #[.int .i64 0, .int .i64 0]) 2 16 Tryd.underlying24 HI.out (by decide) rfl (by decide) _ 0 _ rfl hown1 (some p0) n c (entCells xs) rfl HL.out HK.out (entCells_one xs) (by omega) (by simp) ?_)
    · intro v' w' hown' hgr
      go_wp2
      go_ret
      refine ⟨⟨_, rfl, by simpa using hown'⟩, ?_⟩
      exact (below_alloc w _).grown hgr (by simp) (fun kk e => (hown1.lt kk e).1)
theorem word_vals {w : World} {a : Option Addr} {n c : Nat} {xs : List OC.Dat} (h : RdD w (.slice a n c) xs) : ∃ vs : List Value, vs.length = xs.length ∧ (∀ i, i < xs.length → ∃ b off v, a = some ⟨b, off, none⟩ ∧ vs[i]? = some v ∧ w.cell? ⟨b, off + i * 3, none⟩ = some (.string ⟨(xs.getD i OC.dz).text.toArray⟩) ∧ w.cell? ⟨b, off + i * 3 + 1, none⟩ = some (.bool (xs.getD i OC.dz).isText) ∧ w.cell? ⟨b, off + i * 3 + 2, none⟩ = some v ∧ Rd .i64 w v (xs.getD i OC.dz).words) := by
  have hl := h.len.1
  have pick : ∀ i : Nat, ∃ v : Value, i < xs.length → ∃ b off, a = some ⟨b, off, none⟩ ∧ w.cell? ⟨b, off + i * 3, none⟩ = some (.string ⟨(xs.getD i OC.dz).text.toArray⟩) ∧ w.cell? ⟨b, off + i * 3 + 1, none⟩ = some (.bool (xs.getD i OC.dz).isText) ∧ w.cell? ⟨b, off + i * 3 + 2, none⟩ = some v ∧ Rd .i64 w v (xs.getD i OC.dz).words := fun i => by
    by_cases hi : i < xs.length
    · obtain ⟨-, b, off, rfl, h0, h1, v, h2, h3⟩ := h.get (show i < n by omega)
      exact ⟨v, fun _ => ⟨b, off, rfl, h0, h1, h2, h3⟩⟩
    · exact ⟨.nilFunc, fun h => absurd h hi⟩
  obtain ⟨f, hf⟩ := Classical.axiomOfChoice pick
  refine ⟨(List.range xs.length).map f, by simp, fun i hi => ?_⟩
  obtain ⟨b, off, ha, h0, h1, h2, h3⟩ := hf i hi
  exact ⟨b, off, f i, ha, by simp [hi], h0, h1, h2, h3⟩
/-- the rows of areas as cells that can be copied; vs: their words as values -/
theorem srcC_dats {w : World} {a : Option Addr} {n c : Nat} {xs : List OC.Dat} {vs : List Value} (hn : n = xs.length) (hvl : vs.length = xs.length) (hnil : a = none → n = 0) (h : ∀ i, i < xs.length → ∃ b off v, a = some ⟨b, off, none⟩ ∧ vs[i]? = some v ∧ w.cell? ⟨b, off + i * 3, none⟩ = some (.string ⟨(xs.getD i OC.dz).text.toArray⟩) ∧ w.cell? ⟨b, off + i * 3 + 1, none⟩ = some (.bool (xs.getD i OC.dz).isText) ∧ w.cell? ⟨b, off + i * 3 + 2, none⟩ = some v ∧ Rd .i64 w v (xs.getD i OC.dz).words) : SrcC w a n c (datCells xs vs) := by
  subst hn
  cases a with
  | none =>
    have h0 := hnil rfl
    have : xs = [] := List.length_eq_zero_iff.1 h0
    subst this
    have : vs = [] := List.length_eq_zero_iff.1 hvl
    subst this
    exact .inl ⟨rfl, rfl, rfl⟩
  | some p =>
    refine .inr ⟨p, rfl, fun j u hu => ?_⟩
    have hj : j < (datCells xs vs).length := (List.getElem?_eq_some_iff.1 hu).1
    rw [datCells_len _ _ hvl] at hj
    have hi : j / 3 < xs.length := by omega
    obtain ⟨b, off, v, hp, hv, k0, k1, k2, -⟩ := h (j / 3) hi
    simp only [Option.some.injEq] at hp
    subst hp
    rw [add_plain']
    obtain ⟨h0, h1, h2⟩ := datCells_at xs vs (j / 3) hvl hi
    have hv2 : vs.getD (j / 3) (.slice none 0 0) = v := by rw [List.getD_eq_getElem?_getD, hv]; rfl
    rw [hv2] at h2
    have e3 : j = j / 3 * 3 ∨ j = j / 3 * 3 + 1 ∨ j = j / 3 * 3 + 2 := by omega
    rcases e3 with e | e | e
    · rw [← e] at h0; rw [hu] at h0; rw [← e] at k0; rw [k0, ← h0]
    · rw [← e] at h1; rw [hu] at h1; rw [Nat.add_assoc, ← e] at k1; rw [k1, ← h1]
    · rw [← e] at h2; rw [hu] at h2; rw [Nat.add_assoc, ← e] at k2; rw [k2, ← h2]
theorem datCells_one : ∀ (l : List OC.Dat) (vs : List Value), (∀ v ∈ vs, v.oneCell' = true) → ∀ u ∈ datCells l vs, u.oneCell' = true
  | [], _, _, u, hu => by simp [datCells] at hu
  | _ :: _, [], _, u, hu => by simp [datCells] at hu
  | d :: r, v :: vs, h, u, hu => by
    simp only [datCells, List.mem_cons] at hu
    rcases hu with rfl | rfl | rfl | hu
    · rfl
    · rfl
    · exact h _ (List.mem_cons_self ..)
    · exact datCells_one r vs (fun x hx => h x (List.mem_cons_of_mem _ hx)) u hu
theorem datCells_set : ∀ (l : List OC.Dat) (vs : List Value) (i : Nat) (v : Value), vs.length = l.length → i < l.length → (datCells l vs).set (i * 3 + 2) v = datCells l (vs.set i v)
  | [], vs, i, v, _, h => by simp at h
  | d :: r, [], i, v, h, _ => by simp at h
  | d :: r, u :: vs, 0, v, _, _ => rfl
  | d :: r, u :: vs, i + 1, v, hl, h => by
    have e2 : (i + 1) * 3 = i * 3 + 2 + 1 := by omega
    simp only [datCells, List.set_cons_succ]
    rw [e2, List.set_cons_succ]
    rw [datCells_set r vs i v (by simpa using hl) (by simpa using h)]
set_option maxRecDepth 100000 in
set_option maxHeartbeats 2000000 in
theorem CloneDats_c (a : Option Addr) (n c : Nat) (xs : List OC.Dat) (vs : List Value) (w : World) (hnx : n = xs.length) (hvl : vs.length = xs.length) (hl : n ≤ 2000) (hone : ∀ v ∈ vs, v.oneCell' = true) (h : SrcC w a n c (datCells xs vs)) :
    Calls Tryd.prog 99 #[.slice a n c] w fun e w' => (∃ v', e = .returned v' ∧ w'.ownsRow w.heap.size 43 3 v' n (datCells xs vs)) ∧ Below w.heap.size w w' := by
  have hs := h
  obtain ⟨i0, h1, h2, h3, h4⟩ := info_parts dat_info
  have hI : Tryd.prog.info? 43 = some i0 ∧ i0.zero = some (.agg #[.string ⟨#[]⟩, .bool false, .slice none 0 0]) ∧ i0.size = 3 ∧ i0.bytes = 48 := ⟨h1, h2, h3, h4⟩
  have HI := Lib.hid hI
  have HS := Lib.hid hs
  clear h1 h2 h3 h4 hI h hs
  have HL : Hid (((datCells xs vs)).length = n * 3) := by show _ = _; rw [datCells_len _ _ hvl, hnx]
  cases a with
  | none =>
    have hn0 : n = 0 := by
      rcases HS.out with h | ⟨p, h1, -⟩
      · exact h.2.1
      · cases h1
    subst hn0
    have hnil : (datCells xs vs) = [] := List.length_eq_zero_iff.1 (by rw [HL.out, Nat.zero_mul])
    rw [hnil]
    have hnq : ∀ W, (binOp .eql 22 (.slice none 0 c) (.slice none 0 0)).run Tryd.prog W = .ok (.bool true) W := fun W => eqlNil W _ _ none 0 c Tryd.underlying22
    clear hnil HL HS HI
    (try clear hnx)
    (try clear hn)
    go_enter Tryd.func99, Tryd.ntmps99
    go_wp2
    all_goals go_ret
    all_goals exact ⟨⟨_, rfl, ⟨by simp, .inl ⟨rfl, rfl⟩⟩⟩, Below.refl _ _⟩
  | some p0 =>
    have hown1 := World.ownsRow_lit (base := w.heap.size) (e := 43) (size := 3) w #[] 0 (Nat.le_refl _) (by unfold maxLen; omega) rfl
    have HK : Hid (SrcC (w.alloc (.cells #[] 43)) (some p0) n c (datCells xs vs)) := by
      rcases HS.out with h | ⟨p, h1, h2⟩
      · exact .inl h
      · exact .inr ⟨p, h1, fun j u hu => ((below_alloc w _).cell (World.block_lt_of_cell? _ _ (h2 j u hu))).trans (h2 j u hu)⟩
    have hnq : ∀ W, (binOp .eql 22 (.slice (some p0) n c) (.slice none 0 0)).run Tryd.prog W = .ok (.bool false) W := fun W => eqlNil W _ _ (some p0) n c Tryd.underlying22
    (try clear hnx)
    (try clear hn)
    go_enter Tryd.func99, Tryd.ntmps99
    go_wp2_with (at_builtin; refine wpList_append_rows rfl (.tmp 5) (.tmp 6) 22 rfl w.heap.size 43 i0 (.agg #[.string ⟨#[]⟩, .bool false, .slice none 0 0]) 3 48 Tryd.underlying22 HI.out (by decide) rfl (by decide) _ 0 _ rfl hown1 (some p0) n c (datCells xs vs) rfl HL.out HK.out (datCells_one xs vs hone) (by omega) (by simp) ?_)
    · intro v' w' hown' hgr
      go_wp2
      go_ret
      refine ⟨⟨_, rfl, by simpa using hown'⟩, ?_⟩
      exact (below_alloc w _).grown hgr (by simp) (fun kk e => (hown1.lt kk e).1)
end Go.Proofs.YthlakfgpmggceaaDoor
namespace Go.Proofs.YthlakfgpmggceaaDoor
open Go.RowKit
set_option linter.unusedVariables false
set_option linter.unusedSimpArgs false
theorem SrcC.keep {w w' : World} {a : Option Addr} {n c : Nat} {cs : List Value} (h : SrcC w a n c cs) (hb : Below w.heap.size w w') : SrcC w' a n c cs := by
  rcases h with h | ⟨p, h1, h2⟩
  · exact .inl h
  · exact .inr ⟨p, h1, fun j u hu => (hb.cell (World.block_lt_of_cell? _ _ (h2 j u hu))).trans (h2 j u hu)⟩
theorem Kp.then {base : Nat} {w w1 w2 : World} (h : Kp base w w1) (hb : Below w1.heap.size w1 w2) : Kp base w w2 := fun p c hp hc => by
  have h1 := h p c hp hc
  exact (hb.cell (World.block_lt_of_cell? _ _ h1)).trans h1
theorem Kb.then {base : Nat} {w w1 w2 : World} (h : Kb base w w1) (hb : Below w1.heap.size w1 w2) : Kb base w w2 :=
  ⟨Nat.le_trans h.1 hb.size, fun g h1 h2 => (hb.block g (Nat.lt_of_lt_of_le h2 h.1)).trans (h.2 g h1 h2)⟩
theorem drop_getD {vs : List Value} {news : List Value} {k : Nat} (hn : news.length = k) (hk : k < vs.length) : (news ++ vs.drop k).getD k (.slice none 0 0) = vs[k] := by
  rw [List.getD_eq_getElem?_getD, List.getElem?_append_right (by omega)]
  simp [hn, hk]
theorem drop_set {vs : List Value} {news : List Value} {k : Nat} {v : Value} (hn : news.length = k) (hk : k < vs.length) : (news ++ vs.drop k).set k v = (news ++ [v]) ++ vs.drop (k + 1) := by
  rw [List.set_append, if_neg (by omega), hn, Nat.sub_self, List.drop_eq_getElem_cons hk, List.set_cons_zero]; simp
theorem BoxC.set2 {w : World} {b : Nat} {c : OC.Code} {da oa ga : Option Addr} {dl dc ol oc gl gc : Nat} (h : BoxC w b c da oa ga dl dc ol oc gl gc) (x : Option Addr) (y : Nat) : BoxC (w.setCell ⟨b, 2, none⟩ (.slice x ol y)) b c da x ga dl dc ol y gl gc := by
  obtain ⟨c0, c1, c2, c3, c4, c5⟩ := h
  obtain ⟨a0, a1, a2, a3, a4, a5⟩ := box_set (.slice x ol y) c0 c1 c2 c3 c4 c5 2 (.inr (.inl rfl))
  simp only [if_true, show ((2 : Nat) = 1) = False from by simp, show ((2 : Nat) = 3) = False from by simp, if_false] at a1 a2 a3
  exact ⟨a0, a1, a2, a3, a4, a5⟩
theorem clone_end {w wr w4 w5 WF : World} {b B5 : Nat} {c : OC.Code} {gD gO gG : Option Addr} {dl cD ol cO gl cG : Nat} {vs : List Value}
    (hn : c.name.length ≤ 140737488351232) (hd : dl = c.data.length) (ho : ol = c.ops.length) (h1 : ol ≤ 40100) (h2 : gl ≤ 400) (h3 : dl ≤ 2000)
    (b2 : b + 2 ≤ wr.heap.size) (hz4 : wr.heap.size ≤ w4.heap.size) (h45 : w4.heap.size ≤ B5)
    (HOWN : wr.ownsRow (b + 2) 43 3 (.slice gD dl cD) dl (datCells c.data vs)) (HWS : WordsAt (b + 2) wr (.slice gD dl cD) c.data vs)
    (HOW4 : w4.ownsRow wr.heap.size 50 3 (.slice gO ol cO) ol (opCells c.ops))
    (HOW5 : w5.ownsRow B5 66 2 (.slice gG gl cG) gl (entCells c.globals))
    (HNZ : Kb (b + 2) w5 WF) (HMZ : Kb (b + 2) w4 WF) (HKZ : Kp (b + 2) wr WF) (HLZ : Below b w WF) :
    CopyR c b (.returned (codeV c gD gO gG dl cD ol cO gl cG)) WF ∧ Below b w WF := by
  have hD : RdD WF (.slice gD dl cD) c.data := RdD.kp HOWN HWS hd.symm (by omega) HKZ
  have hO2 := owns_kb (owns_mono (base' := b + 2) HOW4 (by omega)) HMZ
  have hE2 := owns_kb (owns_mono (base' := b + 2) HOW5 (by omega)) HNZ
  have hO : RdO WF (.slice gO ol cO) c.ops := RdO.of_owns hO2 (by omega)
  have hE : RdE WF (.slice gG gl cG) c.globals := RdE.of_owns hE2 (by omega)
  refine ⟨⟨gD, gO, gG, dl, cD, ol, cO, gl, cG, rfl, ⟨hD, hO, hE, hn⟩, ?_, ?_⟩, HLZ⟩
  · have h := owns_mono (base' := b) hO2 (by omega)
    have e : ∀ n : Nat, n = ol → WF.ownsRow b 50 3 (.slice gO ol cO) n (opCells c.ops) := fun n h0 => by rw [h0]; exact h
    exact e _ ho.symm
  · intro wz hwz
    refine ⟨RdD.kp HOWN HWS hd.symm (by omega) (fun p x hb hx => hwz p x (by omega) (HKZ p x hb hx) (fun e => ?_)), RdE.past (base := b) (u := .slice gO ol cO) hE (fun B h1 => by have h3 := (HOW5.lt B h1).1; omega) (fun B h1 h2 => ?_) hwz⟩
    · have h1 := (HOW4.lt _ e.symm).1
      have h2 := World.block_lt_of_cell? _ _ hx
      omega
    · have h3 := (HOW5.lt B h1).1
      have h4 := (HOW4.lt B h2).2
      omega
set_option maxRecDepth 100000 in
set_option maxHeartbeats 8000000 in
theorem clone_c (c : OC.Code) (da oa ga : Option Addr) (dl dc ol oc gl gc : Nat) (w : World) (hc : CodeIn w c da oa ga dl dc ol oc gl gc) (h1 : c.ops.length ≤ 40100) (h2 : c.globals.length ≤ 400) (h3 : c.data.length ≤ 2000) (h4 : ∀ d ∈ c.data, d.words.length ≤ 2000) :
    Calls Tryd.prog 63 #[codeV c da oa ga dl dc ol oc gl gc] w fun e w' => CopyR c w.heap.size e w' ∧ Below w.heap.size w w' := by
  obtain ⟨hdl, hdc, hdm⟩ := hc.data.len
  obtain ⟨hol, hoc, hom⟩ := hc.ops.len
  obtain ⟨hgl, hgc, hgm⟩ := hc.globals.len
  have HC := Lib.hid hc
  have HD := Lib.hid hdl
  have HO := Lib.hid hol
  have HG := Lib.hid hgl
  have H4 := Lib.hid h4
  obtain ⟨vs, hvl, hvs⟩ := word_vals hc.data
  have hnil : da = none → dl = 0 := fun h => by
    by_cases h0 : dl = 0
    · exact h0
    · obtain ⟨b, off, v, ha, -⟩ := hvs 0 (by omega)
      rw [ha] at h; cases h
  have hsrc := srcC_dats (c := dc) hdl hvl hnil hvs
  have hone : ∀ v ∈ vs, v.oneCell' = true := fun v hv => by
    obtain ⟨i, hi, rfl⟩ := List.getElem_of_mem hv
    obtain ⟨b, off, u, -, hu, -, -, -, a', cap', hs, -⟩ := hvs i (by omega)
    rw [List.getElem?_eq_getElem hi] at hu
    have := Option.some.inj hu
    rw [this, hs]; rfl
  have HVS := Lib.hid hvs
  have HVL := Lib.hid hvl
  rw [← hol] at h1
  rw [← hgl] at h2
  rw [← hdl] at h3
  have HCD : Hid (∀ W, Below w.heap.size w W → Calls Tryd.prog 99 #[.slice da dl dc] W fun e w' => (∃ v', e = .returned v' ∧ w'.ownsRow W.heap.size 43 3 v' dl (datCells c.data vs)) ∧ Below W.heap.size W w') := fun W hW => CloneDats_c da dl dc c.data vs W hdl hvl h3 hone (hsrc.keep hW)
  have HCO : Hid (∀ W, Below w.heap.size w W → Calls Tryd.prog 101 #[.slice oa ol oc] W fun e w' => (∃ v', e = .returned v' ∧ w'.ownsRow W.heap.size 50 3 v' ol (opCells c.ops)) ∧ Below W.heap.size W w') := fun W hW => CloneOps_c oa ol oc c.ops W (hc.keep hW).ops h1
  have HCE : Hid (∀ W, Below w.heap.size w W → Calls Tryd.prog 102 #[.slice ga gl gc] W fun e w' => (∃ v', e = .returned v' ∧ w'.ownsRow W.heap.size 66 2 v' gl (entCells c.globals)) ∧ Below W.heap.size W w') := fun W hW => CloneEnts_c ga gl gc c.globals W (hc.keep hW).globals h2
  obtain ⟨name, data, ops, globals, procs, labels⟩ := c
  dsimp only at *
  clear hdl hol hgl hc h4 hvs hvl hsrc hone hnil
  go_enter Tryd.func63, Tryd.ntmps63
  go_wp2_with (go_at_call 99; refine (HCD.out _ (below_then (below_alloc _ _) (below_alloc _ _))).mono ?_; rintro e w1 ⟨⟨v1, rfl, hown1⟩, hb1⟩; have hs1 := hb1.size; have hs1b : w.heap.size + 2 ≤ w1.heap.size := (by simpa using hs1); have HB1 : Hid (BoxC w1 w.heap.size ⟨name, data, ops, globals, procs, labels⟩ da oa ga dl dc ol oc gl gc) := ((BoxC.new w ⟨name, data, ops, globals, procs, labels⟩ da oa ga dl dc ol oc gl gc 26).keep (below_alloc _ _) (by simp)).keep hb1 (by first | (simp; done) | (simp; omega)); have HZ1 : Hid (BoxC w1 (w.heap.size + 1) OC.cz none none none 0 0 0 0 0 0) := (by have h := BoxC.new (w.alloc (.cells #[.string ⟨name.toArray⟩, .slice da dl dc, .slice oa ol oc, .slice ga gl gc, .int .i64 procs, .int .i64 labels] 26)) OC.cz none none none 0 0 0 0 0 0 26; rw [show (w.alloc (.cells #[.string ⟨name.toArray⟩, .slice da dl dc, .slice oa ol oc, .slice ga gl gc, .int .i64 procs, .int .i64 labels] 26)).heap.size = w.heap.size + 1 from by simp] at h; exact h.keep hb1 (by first | (simp; done) | (simp; omega))); have HF1 : Hid (∀ o, w1.frozen? ⟨w.heap.size, o, none⟩ = false ∧ w1.frozen? ⟨w.heap.size + 1, o, none⟩ = false) := (fun o => ⟨(hb1.frozen (p := ⟨w.heap.size, o, none⟩) (by first | (simp; done) | (simp; omega))).trans (by simp [go_sem]), (hb1.frozen (p := ⟨w.heap.size + 1, o, none⟩) (by first | (simp; done) | (simp; omega))).trans (by simp [go_sem])⟩); obtain ⟨c0, c1, c2, c3, c4, c5⟩ := HB1.out; have f1 := (HF1.out 1).1; obtain ⟨gD, cD, rfl⟩ := owns_form' hown1; have q1 : w.heap.size < w1.heap.size := (by omega))
  have KB1 : Hid (Kb (w.heap.size + 2) w1 (w1.setCell ⟨w.heap.size, 1, none⟩ (.slice gD dl cD))) := Kb.set (w := w1) ⟨Nat.le_refl _, fun _ _ _ => rfl⟩ (by omega)
  have HOW1 : Hid ((w1.setCell ⟨w.heap.size, 1, none⟩ (.slice gD dl cD)).ownsRow (w.heap.size + 2) 43 3 (.slice gD dl cD) dl (datCells data vs)) := by
    refine owns_kb ?_ KB1.out
    simpa using hown1
  have HBA : Hid (BoxC (w1.setCell ⟨w.heap.size, 1, none⟩ (.slice gD dl cD)) w.heap.size ⟨name, data, ops, globals, procs, labels⟩ gD oa ga dl cD ol oc gl gc) := by
    obtain ⟨a0, a1, a2, a3, a4, a5⟩ := box_set (.slice gD dl cD) c0 c1 c2 c3 c4 c5 1 (.inl rfl)
    simp only [if_true, show ((1 : Nat) = 2) = False from by simp, show ((1 : Nat) = 3) = False from by simp, if_false] at a1 a2 a3
    exact ⟨a0, a1, a2, a3, a4, a5⟩
  have HZA : Hid (BoxC (w1.setCell ⟨w.heap.size, 1, none⟩ (.slice gD dl cD)) (w.heap.size + 1) OC.cz none none none 0 0 0 0 0 0) := by
    obtain ⟨e0, e1, e2, e3, e4, e5⟩ := HZ1.out
    exact ⟨(set_other _ _ _ _ _ _ (by omega)).trans e0, (set_other _ _ _ _ _ _ (by omega)).trans e1, (set_other _ _ _ _ _ _ (by omega)).trans e2, (set_other _ _ _ _ _ _ (by omega)).trans e3, (set_other _ _ _ _ _ _ (by omega)).trans e4, (set_other _ _ _ _ _ _ (by omega)).trans e5⟩
  have HFA : Hid (∀ o, (w1.setCell ⟨w.heap.size, 1, none⟩ (.slice gD dl cD)).frozen? ⟨w.heap.size, o, none⟩ = false ∧ (w1.setCell ⟨w.heap.size, 1, none⟩ (.slice gD dl cD)).frozen? ⟨w.heap.size + 1, o, none⟩ = false) := fun o => ⟨(World.frozen?_setCell ..).trans (HF1.out o).1, (World.frozen?_setCell ..).trans (HF1.out o).2⟩
  have HLA : Hid (Below w.heap.size w (w1.setCell ⟨w.heap.size, 1, none⟩ (.slice gD dl cD))) := (below_then (below_then (below_alloc _ _) (below_alloc _ _)) hb1).setCell (p := ⟨w.heap.size, 1, none⟩) (Nat.le_refl _) _
  have HSZ : Hid (w.heap.size + 2 ≤ (w1.setCell ⟨w.heap.size, 1, none⟩ (.slice gD dl cD)).heap.size) := by show _ ≤ _; simpa using hs1b
  clear c0 c1 c2 c3 c4 c5 f1 hown1 hb1 hs1 HB1 HZ1 HF1 KB1 HCD
  generalize (w1.setCell ⟨w.heap.size, 1, none⟩ (.slice gD dl cD)) = WA at *
  clear hs1b q1
  go_loopw [12] (fun i wr => ∃ (k : Nat) (news : List Value), k ≤ dl ∧ i = .int .i64 k ∧ news.length = k ∧ wr.ownsRow (w.heap.size + 2) 43 3 (.slice gD dl cD) dl (datCells data (news ++ vs.drop k)) ∧ Hid (WordsAt (w.heap.size + 2) wr (.slice gD dl cD) (data.take k) news) ∧ BoxC wr w.heap.size ⟨name, data, ops, globals, procs, labels⟩ gD oa ga dl cD ol oc gl gc ∧ Hid (BoxC wr (w.heap.size + 1) OC.cz none none none 0 0 0 0 0 0) ∧ Hid (∀ o, wr.frozen? ⟨w.heap.size, o, none⟩ = false ∧ wr.frozen? ⟨w.heap.size + 1, o, none⟩ = false) ∧ w.heap.size + 2 ≤ wr.heap.size ∧ Below w.heap.size w wr) (fun i _ => dl - (intOf i).toNat)
  case atStart => exact ⟨0, [], Nat.zero_le _, rfl, rfl, HOW1.out, ⟨rfl, fun i hi => by simp at hi⟩, HBA.out, HZA.out, HFA.out, HSZ.out, HLA.out⟩
  case round =>
    clear HOW1 HBA HZA HFA HLA HSZ
    obtain ⟨k, news, hk, rfl, hnl, hown, hws, hbox, hzb, hfr, hsz, hbl⟩ := hrel
    have HBOX := Lib.hid hbox
    have HOWN := Lib.hid hown
    have HNL := Lib.hid hnl
    have HSZ := Lib.hid hsz
    obtain ⟨c0, c1, c2, c3, c4, c5⟩ := hbox
    by_cases hlt : k < dl
    · obtain ⟨gd, cD', hv⟩ := owns_pos hown (by omega)
      simp only [Value.slice.injEq] at hv
      obtain ⟨rfl, -, rfl⟩ := hv
      have hgd := hown.lt gd rfl
      have hkd : k < data.length := by rw [← HD.out]; exact hlt
      have hkv : k < vs.length := by rw [HVL.out]; exact hkd
      obtain ⟨sb, so, v, -, hv1, -, -, -, hrd⟩ := HVS.out k hkd
      have hlen3 : (news ++ vs.drop k).length = data.length := by rw [List.length_append, hnl, List.length_drop, HVL.out]; omega
      obtain ⟨d0, d1, d2⟩ := datCells_at data (news ++ vs.drop k) k hlen3 hkd
      have hvk : (news ++ vs.drop k).getD k (.slice none 0 0) = v := by
        rw [drop_getD hnl hkv]
        rw [List.getElem?_eq_getElem hkv] at hv1
        exact Option.some.inj hv1
      rw [hvk] at d2
      have h0 := (hown.cellAt (k * 3) (by omega)).trans d0
      have h1c := (hown.cellAt (k * 3 + 1) (by omega)).trans d1
      have h2c := (hown.cellAt (k * 3 + 2) (by omega)).trans d2
      have hfz := hown.frozenAt (k * 3 + 2)
      have hwl := H4.out _ (getD_map_range data OC.dz hkd)
      have HTK : Hid (data.take (k + 1) = data.take k ++ [data.getD k OC.dz]) := by show _ = _; rw [List.take_succ_eq_append_getElem hkd, getD_at hkd]
      have HST : Hid (∀ u, (datCells data (news ++ vs.drop k)).set (k * 3 + 2) u = datCells data ((news ++ [u]) ++ vs.drop (k + 1))) := fun u => by rw [datCells_set _ _ _ _ hlen3 hkd, drop_set hnl hkv]
      have HVR0 := hrd.keep hbl
      generalize data.getD k OC.dz = x at *
      obtain ⟨tx, it, wd⟩ := x
      dsimp only at h0 h1c h2c hwl HVR0
      obtain ⟨va, vc, rfl, r1, r2⟩ := HVR0
      have HVR : Hid (Rd .i64 wr (.slice va wd.length vc) wd) := ⟨va, vc, rfl, r1, r2⟩
      obtain ⟨wl, hwlx⟩ : ∃ n, wd.length = n := ⟨_, rfl⟩
      have HWL := Lib.hid hwlx
      rw [hwlx] at h2c HVR hwl
      have HCI : Hid (∀ W, Rd .i64 W (.slice va wl vc) wd → Calls Tryd.prog 100 #[.slice va wl vc] W fun e w' => (∃ v', e = .returned v' ∧ w'.ownsRow W.heap.size 3 1 v' wl (wd.map (Value.int .i64))) ∧ Below W.heap.size W w') := fun W hW => CloneInts_c va wl vc wd W hW hwlx.symm (by omega)
      have hfz3 : (wr.alloc (.cells #[.string ⟨tx.toArray⟩, .bool it, .slice va wl vc] 43)).frozen? ⟨gd, k * 3 + 2, none⟩ = false := by simpa [World.frozen?_alloc_past, hgd.2] using hfz
      have k1 : (k : Int) < (dl : Int) := by omega
      have m1 : gd < wr.heap.size := hgd.2
      have m2 : gd < wr.heap.size + 1 := by omega
      have m3 : w.heap.size + 2 ≤ gd := hgd.1
      have m4 : w.heap.size < wr.heap.size := by omega
      have m5 : w.heap.size < wr.heap.size + 1 := by omega
      clear hrd hv1 d0 d1 d2 hvk r1 r2 hwlx hown hgd hkd hkv hlen3 hnl
      go_wp2
      refine OrdJ.wp (S := (fun w' => w'.cell? ⟨gd, k * 3 + 2, none⟩ = some (.slice va wl vc) ∧ w'.cell? ⟨w.heap.size, 1, none⟩ = some (.slice (some ⟨gd, 0, none⟩) dl cD) ∧ w'.cell? ⟨wr.heap.size, 2, none⟩ = some (.slice va wl vc))) (d := 8) (by kernel_rfl) ?_ (fun hHeld => ?_)
      · go_keep
      refine OrdJ.take (i := 0) (v := ?va0) (ch := [8]) rfl rfl (by kernel_rfl) (by kernel_rfl) (by kernel_rfl) (by kernel_rfl) (by kernel_rfl) (fun _ _ _ h => h) (Or.inl ⟨by rfl, ?hya0⟩) (by assumption) ?resta0
      case hya0 => (intro W hSw; (try dsimp only at hSw); go_simp; try with_reducible rfl)
      try simp only [Act.put, List.setIfInBounds_toArray, List.set_cons_zero, List.set_cons_succ]
      refine OrdJ.take (i := 1) (v := ?va1) (ch := [8]) rfl rfl (by kernel_rfl) (by kernel_rfl) (by kernel_rfl) (by kernel_rfl) (by kernel_rfl) (fun _ _ _ h => h) (Or.inl ⟨by rfl, ?hya1⟩) (by assumption) ?resta1
      case hya1 => (intro W hSw; (try dsimp only at hSw); go_simp; try with_reducible rfl)
      try simp only [Act.put, List.setIfInBounds_toArray, List.set_cons_zero, List.set_cons_succ]
      refine OrdJ.take (i := 2) (v := ?va2) (ch := [8]) rfl rfl (by kernel_rfl) (by kernel_rfl) (by kernel_rfl) (by kernel_rfl) (by kernel_rfl) (fun _ _ _ h => h) (Or.inl ⟨by rfl, ?hya2⟩) (by assumption) ?resta2
      case hya2 => (intro W hSw; (try dsimp only at hSw); go_simp; try with_reducible rfl)
      try simp only [Act.put, List.setIfInBounds_toArray, List.set_cons_zero, List.set_cons_succ]
      refine OrdJ.take (i := 3) (v := ?va3) (ch := [8]) rfl rfl (by kernel_rfl) (by kernel_rfl) (by kernel_rfl) (by kernel_rfl) (by kernel_rfl) (fun _ _ _ h => h) (Or.inl ⟨by rfl, ?hya3⟩) (by assumption) ?resta3
      case hya3 => (intro W hSw; (try dsimp only at hSw); go_simp; try with_reducible rfl)
      try simp only [Act.put, List.setIfInBounds_toArray, List.set_cons_zero, List.set_cons_succ]
      refine OrdJ.take (i := 4) (v := ?va4) (ch := [8]) rfl rfl (by kernel_rfl) (by kernel_rfl) (by kernel_rfl) (by kernel_rfl) (by kernel_rfl) (fun _ _ _ h => h) (Or.inl ⟨by rfl, ?hya4⟩) (by assumption) ?resta4
      case hya4 => (intro W hSw; (try dsimp only at hSw); go_simp; try with_reducible rfl)
      try simp only [Act.put, List.setIfInBounds_toArray, List.set_cons_zero, List.set_cons_succ]
      refine OrdJ.one (i := 5) (by kernel_rfl) rfl (fun K hK => ?_)
      go_simp
      go_at_call 100
      refine (HCI.out _ (HVR.out.keep (below_alloc _ _).drew)).mono ?_
      rintro e w2 ⟨⟨vn, rfl, hownn⟩, hb2⟩
      obtain ⟨na, nc, rfl⟩ := owns_form' hownn
      have hb2d := hb2
      have hS2 : (fun w' => w'.cell? ⟨gd, k * 3 + 2, none⟩ = some (.slice va wl vc) ∧ w'.cell? ⟨w.heap.size, 1, none⟩ = some (.slice (some ⟨gd, 0, none⟩) dl cD) ∧ w'.cell? ⟨wr.heap.size, 2, none⟩ = some (.slice va wl vc)) w2 := by
        (try dsimp only at hHeld ⊢); go_split_ands; refine ⟨?_, ?_, ?_⟩ <;> exact (hb2.cell (World.block_lt_of_cell? _ _ (by assumption))).trans (by assumption)
      have hf2 : w2.frozen? ⟨gd, k * 3 + 2, none⟩ = false := (hb2.frozen (p := ⟨gd, k * 3 + 2, none⟩) (by simp; omega)).trans (by simpa using hfz3)
      refine hK.out _ _ ⟨fun _ => hS2, ?_⟩
      clear hK K hHeld
      try simp only [Act.put, List.setIfInBounds_toArray, List.set_cons_zero, List.set_cons_succ]
      refine OrdJ.take (i := 6) (v := ?va6) (ch := [7, 8]) rfl rfl (by kernel_rfl) (by kernel_rfl) (by kernel_rfl) (by kernel_rfl) (by kernel_rfl) (fun _ _ _ h => h) (Or.inl ⟨by rfl, ?hya6⟩) (by assumption) ?resta6
      case hya6 => (intro W hSw; (try dsimp only at hSw); go_simp; try with_reducible rfl)
      try simp only [Act.put, List.setIfInBounds_toArray, List.set_cons_zero, List.set_cons_succ]
      refine OrdJ.take (i := 7) (v := ?va7) (ch := [8]) rfl rfl (by kernel_rfl) (by kernel_rfl) (by kernel_rfl) (by kernel_rfl) (by kernel_rfl) (fun _ _ _ h => h) (Or.inl ⟨by rfl, ?hya7⟩) (by assumption) ?resta7
      case hya7 => (intro W hSw; (try dsimp only at hSw); go_simp; try with_reducible rfl)
      try simp only [Act.put, List.setIfInBounds_toArray, List.set_cons_zero, List.set_cons_succ]
      refine OrdJ.one (i := 8) (by kernel_rfl) rfl (fun K hK => ?_)
      have hc2 := hS2.1
      go_simp
      refine hK.out _ _ ⟨fun h => absurd rfl h, ?_⟩
      clear hK K
      try simp only [Act.put, List.setIfInBounds_toArray, List.set_cons_zero, List.set_cons_succ]
      refine OrdJ.done (by kernel_rfl) ?_
      have hbf : Below wr.heap.size wr w2 := below_then (below_alloc wr _).drew hb2d
      go_wp2
      go_roundw
      case rel =>
        have hnz : wr.heap.size + 1 ≤ w2.heap.size := by have := hb2d.size; simpa using this
        have hno := fun B hB => (hownn.lt B hB)
        refine ⟨k + 1, news ++ [.slice na wl nc], by omega, by go_num, by rw [List.length_append, HNL.out]; rfl, ?_, ?_, ?_, ?_, ?_, ?_, (below_then hbl (below_then (below_alloc wr _).drew hb2d)).setCell (p := ⟨gd, k * 3 + 2, none⟩) (by dsimp only; omega) _⟩
        · have h := ((owns_keep' HOWN.out hbf).stored (k * 3 + 2) (.slice na wl nc)).1
          rw [HST.out] at h; exact h
        · show WordsAt _ _ _ _ _
          rw [HTK.out]
          have hw1 : WordsAt (w.heap.size + 2) (w2.setCell ⟨gd, k * 3 + 2, none⟩ (.slice na wl nc)) (.slice (some ⟨gd, 0, none⟩) dl cD) (data.take k) news := (hws.out.keep hbf).past (fun p c hp hne => (World.cell?_setCell_other _ _ _ _ (fun e => hne (by rw [← e]; rfl))).trans hp) (by simp) (fun B _ h => h)
          refine hw1.snoc (Rd.set_off (Rd.of_owns hownn (by rw [HWL.out]; omega)) (fun B hB => ?_)) (fun B hB => ?_)
          · have := (hno B hB).1; simp at this; omega
          · have h := hno B hB
            simp at h
            refine ⟨by omega, by simp; omega, fun e => ?_⟩
            simp [Value.ownBlock] at e
            omega
        · have hk2 := HBOX.out.keep hbf m4
          exact ⟨(set_other _ _ _ _ _ _ (by omega)).trans hk2.1, (set_other _ _ _ _ _ _ (by omega)).trans hk2.2.1, (set_other _ _ _ _ _ _ (by omega)).trans hk2.2.2.1, (set_other _ _ _ _ _ _ (by omega)).trans hk2.2.2.2.1, (set_other _ _ _ _ _ _ (by omega)).trans hk2.2.2.2.2.1, (set_other _ _ _ _ _ _ (by omega)).trans hk2.2.2.2.2.2⟩
        · have hk2 := hzb.out.keep hbf (by omega)
          exact ⟨(set_other _ _ _ _ _ _ (by omega)).trans hk2.1, (set_other _ _ _ _ _ _ (by omega)).trans hk2.2.1, (set_other _ _ _ _ _ _ (by omega)).trans hk2.2.2.1, (set_other _ _ _ _ _ _ (by omega)).trans hk2.2.2.2.1, (set_other _ _ _ _ _ _ (by omega)).trans hk2.2.2.2.2.1, (set_other _ _ _ _ _ _ (by omega)).trans hk2.2.2.2.2.2⟩
        · exact fun o => ⟨(World.frozen?_setCell ..).trans ((hbf.frozen (p := ⟨w.heap.size, o, none⟩) m4).trans (hfr.out o).1), (World.frozen?_setCell ..).trans ((hbf.frozen (p := ⟨w.heap.size + 1, o, none⟩) (by show w.heap.size + 1 < _; omega)).trans (hfr.out o).2)⟩
        · simp; omega
      case measure => simp [intOf]; omega
    · obtain rfl : dl = k := by omega
      have hnil : vs.drop dl = [] := List.drop_eq_nil_of_le (by rw [HVL.out, ← HD.out]; exact Nat.le_refl _)
      rw [hnil, List.append_nil] at hown
      have hfull : data.take dl = data := List.take_of_length_le (by rw [← HD.out]; exact Nat.le_refl _)
      have hws2 := hws.out
      rw [hfull] at hws2
      replace HOWN := Lib.hid hown
      have HWS := Lib.hid hws2
      have HBL := Lib.hid hbl
      have q0 : w.heap.size < wr.heap.size := by omega
      clear hown hws hws2 hbl hnil hfull hlt hk hnl HNL
      go_wp2_with (first
        | (go_at_call 101; refine (HCO.out _ HBL.out).mono ?_; rintro e w4 ⟨⟨v4, rfl, hown4⟩, hb4⟩; obtain ⟨gO, cO, rfl⟩ := owns_form' hown4; have hs4 := hb4.size; have HB4 := Lib.hid (HBOX.out.keep hb4 q0); have HOW4 := Lib.hid hown4; have q4 : w.heap.size < w4.heap.size := (by omega); have f4 : w4.frozen? ⟨w.heap.size, 2, none⟩ = false := ((hb4.frozen (p := ⟨w.heap.size, 2, none⟩) q0).trans (hfr.out 2).1); clear c0 c1 c2 c3 c4 c5; obtain ⟨c0, c1, c2, c3, c4, c5⟩ := HB4.out)
        | (go_at_call 102; refine (HCE.out _ ((below_then HBL.out hb4).setCell (p := ⟨w.heap.size, 2, none⟩) (Nat.le_refl _) _)).mono ?_; rintro e w5 ⟨⟨v5, rfl, hown5⟩, hb5⟩; obtain ⟨gG, cG, rfl⟩ := owns_form' hown5; have HOW5 := Lib.hid hown5; have hs5 := hb5.size; have hs5b : w4.heap.size ≤ w5.heap.size := (by simpa using hs5); have HBX : Hid (BoxC (w4.setCell ⟨w.heap.size, 2, none⟩ (.slice gO ol cO)) w.heap.size ⟨name, data, ops, globals, procs, labels⟩ gD gO ga dl cD ol cO gl gc) := (BoxC.set2 HB4.out gO cO); have HB5 := Lib.hid (HBX.out.keep hb5 (by simpa using q4)); have f5 : w5.frozen? ⟨w.heap.size, 3, none⟩ = false := ((hb5.frozen (p := ⟨w.heap.size, 3, none⟩) (by simpa using q4)).trans ((World.frozen?_setCell ..).trans ((hb4.frozen (p := ⟨w.heap.size, 3, none⟩) q0).trans (hfr.out 3).1))); have y5 : ∀ o, w5.frozen? ⟨w.heap.size + 1, o, none⟩ = false := (fun o => (hb5.frozen (p := ⟨w.heap.size + 1, o, none⟩) (by simp; omega)).trans ((World.frozen?_setCell ..).trans ((hb4.frozen (p := ⟨w.heap.size + 1, o, none⟩) (by show w.heap.size + 1 < _; omega)).trans (hfr.out o).2))); have y50 := y5 0; have y51 := y5 1; have y52 := y5 2; have y53 := y5 3; have y54 := y5 4; have y55 := y5 5; clear y5; have HZ4 := hzb.out.keep hb4 (by omega); have HZ5 : Hid (BoxC w5 (w.heap.size + 1) OC.cz none none none 0 0 0 0 0 0) := BoxC.keep (w := (w4.setCell ⟨w.heap.size, 2, none⟩ (.slice gO ol cO))) ⟨(set_other _ _ _ _ _ _ (by omega)).trans HZ4.1, (set_other _ _ _ _ _ _ (by omega)).trans HZ4.2.1, (set_other _ _ _ _ _ _ (by omega)).trans HZ4.2.2.1, (set_other _ _ _ _ _ _ (by omega)).trans HZ4.2.2.2.1, (set_other _ _ _ _ _ _ (by omega)).trans HZ4.2.2.2.2.1, (set_other _ _ _ _ _ _ (by omega)).trans HZ4.2.2.2.2.2⟩ hb5 (by simp; omega); clear HZ4; obtain ⟨e0, e1, e2, e3, e4, e5⟩ := HZ5.out; have s5 : w.heap.size < w5.heap.size := (by omega); have s51 : w.heap.size + 1 < w5.heap.size := (by omega); clear c0 c1 c2 c3 c4 c5; obtain ⟨c0, c1, c2, c3, c4, c5⟩ := HB5.out))
      have o5 : ∀ (j : Nat) (u : Value), w5.cell? ⟨w.heap.size + 1, j, none⟩ = some u → (w5.setCell ⟨w.heap.size, 3, none⟩ (.slice gG gl cG)).cell? ⟨w.heap.size + 1, j, none⟩ = some u := fun j u h => (set_other _ _ _ _ _ _ (by omega)).trans h
      obtain ⟨t0, t1, t2, t3, t4, t5⟩ := six_set (.string ⟨name.toArray⟩) (.slice gD dl cD) (.slice gO ol cO) (.slice gG gl cG) (.int .i64 procs) (.int .i64 labels) (o5 _ _ e0) (o5 _ _ e1) (o5 _ _ e2) (o5 _ _ e3) (o5 _ _ e4) (o5 _ _ e5)
      have hz4 : wr.heap.size ≤ w4.heap.size := hs4
      refine bodyPost_ret (v := .agg #[.string ⟨name.toArray⟩, .slice gD dl cD, .slice gO ol cO, .slice gG gl cG, .int .i64 procs, .int .i64 labels]) (by simp [results, Tryd.results63, go_sem, t0, t1, t2, t3, t4, t5]) rfl ?_
      have b2 : w.heap.size + 2 ≤ wr.heap.size := HSZ.out
      have HKB : ∀ wf : World, Kb (w.heap.size + 2) w5 wf → Kb (w.heap.size + 2) w4 wf := fun wf h => by
        have h1 : Kb (w.heap.size + 2) w4 w5 := (Kb.set (w := w4) (g := w.heap.size) (j := 2) (u := .slice gO ol cO) ⟨Nat.le_refl _, fun _ _ _ => rfl⟩ (by omega)).then hb5
        exact ⟨Nat.le_trans h1.1 h.1, fun g g1 g2 => (h.2 g g1 (Nat.lt_of_lt_of_le g2 h1.1)).trans (h1.2 g g1 g2)⟩
      have HNZ : Kb (w.heap.size + 2) w5 (((((((w5.setCell ⟨w.heap.size, 3, none⟩ (.slice gG gl cG)).setCell ⟨w.heap.size + 1, 0, none⟩ (.string ⟨name.toArray⟩)).setCell ⟨w.heap.size + 1, 1, none⟩ (.slice gD dl cD)).setCell ⟨w.heap.size + 1, 2, none⟩ (.slice gO ol cO)).setCell ⟨w.heap.size + 1, 3, none⟩ (.slice gG gl cG)).setCell ⟨w.heap.size + 1, 4, none⟩ (.int .i64 procs)).setCell ⟨w.heap.size + 1, 5, none⟩ (.int .i64 labels)) := (by repeat (first | refine Kb.set ?_ (by omega) | exact ⟨Nat.le_refl _, fun _ _ _ => rfl⟩))
      have HMZ : Kb (w.heap.size + 2) w4 (((((((w5.setCell ⟨w.heap.size, 3, none⟩ (.slice gG gl cG)).setCell ⟨w.heap.size + 1, 0, none⟩ (.string ⟨name.toArray⟩)).setCell ⟨w.heap.size + 1, 1, none⟩ (.slice gD dl cD)).setCell ⟨w.heap.size + 1, 2, none⟩ (.slice gO ol cO)).setCell ⟨w.heap.size + 1, 3, none⟩ (.slice gG gl cG)).setCell ⟨w.heap.size + 1, 4, none⟩ (.int .i64 procs)).setCell ⟨w.heap.size + 1, 5, none⟩ (.int .i64 labels)) := HKB _ HNZ
      have HKZ : Kp (w.heap.size + 2) wr (((((((w5.setCell ⟨w.heap.size, 3, none⟩ (.slice gG gl cG)).setCell ⟨w.heap.size + 1, 0, none⟩ (.string ⟨name.toArray⟩)).setCell ⟨w.heap.size + 1, 1, none⟩ (.slice gD dl cD)).setCell ⟨w.heap.size + 1, 2, none⟩ (.slice gO ol cO)).setCell ⟨w.heap.size + 1, 3, none⟩ (.slice gG gl cG)).setCell ⟨w.heap.size + 1, 4, none⟩ (.int .i64 procs)).setCell ⟨w.heap.size + 1, 5, none⟩ (.int .i64 labels)) := (by repeat (first | refine Kp.set ?_ (by omega) | refine Kp.then ?_ hb5 | refine Kp.then ?_ hb4 | exact (fun _ _ _ h => h)))
      have HLZ : Below w.heap.size w (((((((w5.setCell ⟨w.heap.size, 3, none⟩ (.slice gG gl cG)).setCell ⟨w.heap.size + 1, 0, none⟩ (.string ⟨name.toArray⟩)).setCell ⟨w.heap.size + 1, 1, none⟩ (.slice gD dl cD)).setCell ⟨w.heap.size + 1, 2, none⟩ (.slice gO ol cO)).setCell ⟨w.heap.size + 1, 3, none⟩ (.slice gG gl cG)).setCell ⟨w.heap.size + 1, 4, none⟩ (.int .i64 procs)).setCell ⟨w.heap.size + 1, 5, none⟩ (.int .i64 labels)) := ((((((((below_then ((below_then HBL.out hb4).setCell (p := ⟨w.heap.size, 2, none⟩) (Nat.le_refl _) _) hb5).setCell (p := ⟨w.heap.size, 3, none⟩) (Nat.le_refl _) _).setCell (p := ⟨w.heap.size + 1, 0, none⟩) (Nat.le_succ _) _).setCell (p := ⟨w.heap.size + 1, 1, none⟩) (Nat.le_succ _) _).setCell (p := ⟨w.heap.size + 1, 2, none⟩) (Nat.le_succ _) _).setCell (p := ⟨w.heap.size + 1, 3, none⟩) (Nat.le_succ _) _).setCell (p := ⟨w.heap.size + 1, 4, none⟩) (Nat.le_succ _) _).setCell (p := ⟨w.heap.size + 1, 5, none⟩) (Nat.le_succ _) _)
      show CopyR ⟨name, data, ops, globals, procs, labels⟩ w.heap.size (.returned (codeV ⟨name, data, ops, globals, procs, labels⟩ gD gO gG dl cD ol cO gl cG)) _ ∧ Below w.heap.size w _
      exact clone_end HC.out.name HD.out HO.out h1 h2 h3 b2 hz4 (by simp) HOWN.out HWS.out HOW4.out HOW5.out HNZ HMZ HKZ HLZ
end Go.Proofs.YthlakfgpmggceaaDoor
