/- Whether code breaks a limit, in the document's words. -/
import Derived.Test.YthlakfgpmggceaaDoorOcLn
namespace Go.Proofs.YthlakfgpmggceaaDoor
open Go.RowKit
set_option linter.unusedVariables false
def wsum : List OC.Dat → Nat
  | [] => 0
  | d :: r => 1 + d.text.length + d.words.length + wsum r
theorem heavyGo_eq : ∀ (l : List OC.Dat) (n : Nat), heavyGo l n ≤ 2000 → heavyGo l n = n + wsum l
  | [], n, _ => by simp [heavyGo, wsum]
  | d :: r, n, h => by
    rw [heavyGo] at h ⊢
    split at h
    · rename_i hn
      rw [if_pos hn, heavyGo_eq r _ h, wsum]; omega
    · omega
/-- code that the statements look at -/
structure Small (c : OC.Code) : Prop where
  ops : c.ops.length ≤ 40100
  globals : c.globals.length ≤ 400
  weight : c.name.length + wsum c.data ≤ 2000
theorem small_of {c : OC.Code} (h : heavyC c 40100 = false) : Small c := by
  unfold heavyC at h
  simp at h
  obtain ⟨⟨h1, h2⟩, h3⟩ := h
  exact ⟨h1, h2, by rw [← heavyGo_eq _ _ h3]; exact h3⟩
theorem wsum_at : ∀ {l : List OC.Dat} {d : OC.Dat}, d ∈ l → 1 + d.text.length + d.words.length ≤ wsum l
  | [], d, h => by simp at h
  | x :: r, d, h => by
    rw [wsum]
    rcases List.mem_cons.1 h with rfl | h
    · omega
    · have := wsum_at h; omega
theorem wsum_len : ∀ (l : List OC.Dat), l.length ≤ wsum l
  | [] => by simp [wsum]
  | x :: r => by rw [wsum]; have := wsum_len r; simp; omega
theorem sumWords_le : ∀ (l : List OC.Dat), OC.sumWords l ≤ wsum l
  | [] => by simp [wsum, OC.sumWords]
  | x :: r => by
    rw [wsum, OC.sumWords, OC.datWords]
    have := sumWords_le r
    split <;> omega
theorem sumWords_drop : ∀ (l : List OC.Dat) (k : Nat), OC.sumWords (l.drop k) ≤ OC.sumWords l
  | [], k => by simp
  | x :: r, 0 => by simp
  | x :: r, k + 1 => by rw [List.drop_succ_cons, OC.sumWords]; have := sumWords_drop r k; omega
set_option maxRecDepth 100000 in
set_option maxHeartbeats 4000000 in
theorem tooMuchR_c (c : OC.Code) (da oa ga : Option Addr) (dl dc ol oc gl gc : Nat) (w : World) (hc : CodeIn w c da oa ga dl dc ol oc gl gc) (hs : Small c) :
    Calls Tryd.prog 42 #[codeV c da oa ga dl dc ol oc gl gc] w fun e w' => e = .returned (.bool (OC.tooMuch c)) ∧ Below w.heap.size w w' := by
  obtain ⟨hdl, hdc, _⟩ := hc.data.len
  obtain ⟨hol, hoc, _⟩ := hc.ops.len
  have HC := Lib.hid hc
  have HD := Lib.hid hdl
  have hsum := sumWords_le c.data
  have hw := hs.weight
  have hwl := wsum_len c.data
  have hol2 := hs.ops
  rw [← hol] at hol2
  rw [← hdl] at hwl
  have hyes : Hid (OC.tooMuch c = (decide ((40000 : Int) < (ol : Int)) || decide ((2000 : Int) < (dl : Int)) || decide (200 < c.procs) || decide (20000 < c.labels) || decide ((7800 : Int) < (OC.sumWords c.data : Int)))) := by
    show _ = _
    unfold OC.tooMuch
    rw [← hol, ← hdl]
    rw [show decide ((40000 : Int) < (ol : Int)) = decide (40000 < ol) by rw [decide_eq_decide]; omega, show decide ((2000 : Int) < (dl : Int)) = decide (2000 < dl) by rw [decide_eq_decide]; omega, show decide ((7800 : Int) < (OC.sumWords c.data : Int)) = decide (7800 < OC.sumWords c.data) by rw [decide_eq_decide]; omega]
  have HT : Hid (∀ d ∈ c.data, d.text.length ≤ 2000) := fun d hd => by have := wsum_at hd; omega
  have HW : Hid (∀ d ∈ c.data, d.words.length ≤ 2000) := fun d hd => by have := wsum_at hd; omega
  have hS : OC.sumWords c.data ≤ 2000 := by omega
  have k0 : ¬ (2000 : Int) < (dl : Int) := by omega
  obtain ⟨name, data, ops, globals, procs, labels⟩ := c
  dsimp only at *
  clear hdl hol hc hs hsum hw
  by_cases p1 : (40000 : Int) < (ol : Int)
  case pos =>
    have hy : Hid (OC.tooMuch ⟨name, data, ops, globals, procs, labels⟩ = true) := by show _ = _; rw [hyes.out]; simp [p1]
    go_enter Tryd.func42, Tryd.ntmps42
    go_wp2
    go_ret
    exact ⟨by rw [hy.out]; rfl, below_alloc _ _⟩
  by_cases p2 : 200 < procs
  case pos =>
    have hy : Hid (OC.tooMuch ⟨name, data, ops, globals, procs, labels⟩ = true) := by show _ = _; rw [hyes.out]; simp [p2]
    go_enter Tryd.func42, Tryd.ntmps42
    go_wp2
    go_ret
    exact ⟨by rw [hy.out]; rfl, below_alloc _ _⟩
  by_cases p3 : 20000 < labels
  case pos =>
    have hy : Hid (OC.tooMuch ⟨name, data, ops, globals, procs, labels⟩ = true) := by show _ = _; rw [hyes.out]; simp [p3]
    go_enter Tryd.func42, Tryd.ntmps42
    go_wp2
    go_ret
    exact ⟨by rw [hy.out]; rfl, below_alloc _ _⟩
  go_enter Tryd.func42, Tryd.ntmps42
  go_wp2
  go_loopw [3, 4] (fun v i wr => ∃ (k n : Nat), k ≤ dl ∧ i = .int .i64 k ∧ v = .int .i64 n ∧ n ≤ 2000 ∧ Hid (n + OC.sumWords (data.drop k) = OC.sumWords data) ∧ BoxC wr w.heap.size ⟨name, data, ops, globals, procs, labels⟩ da oa ga dl dc ol oc gl gc ∧ Below w.heap.size w wr) (fun _ i _ => dl - (intOf i).toNat)
  case atStart => exact ⟨0, 0, Nat.zero_le _, rfl, rfl, by omega, (show 0 + OC.sumWords (data.drop 0) = _ by simp), BoxC.new w ⟨name, data, ops, globals, procs, labels⟩ _ _ _ _ _ _ _ _ _ _, below_alloc _ _⟩
  case round =>
    obtain ⟨k, n, hk, rfl, rfl, hn2, hq, hbox, hbl⟩ := hrel
    have HBOX := Lib.hid hbox
    obtain ⟨c0, c1, c2, c3, c4, c5⟩ := hbox
    by_cases hlt : k < dl
    · obtain ⟨_, b, off, rfl, h0, h1, wv, h2, h3⟩ := (HC.out.keep hbl).data.get hlt
      obtain ⟨wa, wc, rfl, hwl2, h3⟩ := h3
      have hkl : k < data.length := by rw [← HD.out]; exact hlt
      have hd := dropAt (d := OC.dz) hkl
      have hdt := HT.out _ (getD_map_range data OC.dz hkl)
      have hdw := HW.out _ (getD_map_range data OC.dz hkl)
      have hsd := sumWords_drop data k
      generalize data.getD k OC.dz = x at *
      have hq2 : n + (OC.datWords x + OC.sumWords (data.drop (k + 1))) = OC.sumWords data := by
        rw [← hq.out, hd, OC.sumWords]
      obtain ⟨text, isText, words⟩ := x
      dsimp only [OC.datWords] at *
      have hts : (⟨text.toArray⟩ : ByteArray).size = text.length := by simp [ByteArray.size]
      have k1 : (k : Int) < (dl : Int) := by omega
      clear hd h3 hq hsd hwl2
      obtain ⟨wl, hwl2⟩ : ∃ wl, words.length = wl := ⟨_, rfl⟩
      obtain ⟨tl, htl2⟩ : ∃ tl, text.length = tl := ⟨_, rfl⟩
      rw [hwl2] at h2 hdw hq2
      rw [htl2] at hts hdt hq2
      have hk64 : k ≤ 2000 := by omega
      clear hwl2 htl2
      cases isText
      · have hq3 : Hid (n + wl + OC.sumWords (data.drop (k + 1)) = OC.sumWords data) := by show _ = _; simp at hq2; omega
        have hb : n + wl ≤ 2000 := by have := hq3.out; omega
        clear hq2
        go_wp2
        go_roundw
        case rel => exact ⟨k + 1, n + wl, by omega, by go_num, by go_num, by omega, hq3, HBOX.out, hbl⟩
        case measure => simp [intOf]; omega
      · have hq3 : Hid (n + wl + (tl + 2) / 2 + OC.sumWords (data.drop (k + 1)) = OC.sumWords data) := by show _ = _; simp at hq2; omega
        have hb : n + wl + (tl + 2) / 2 ≤ 2000 := by have := hq3.out; omega
        clear hq2
        go_wp2
        go_roundw
        case rel => exact ⟨k + 1, n + wl + (tl + 2) / 2, by omega, by go_num, by go_num, by omega, hq3, HBOX.out, hbl⟩
        case measure => simp [intOf]; omega
    · obtain rfl : k = dl := by omega
      have hfin : Hid (OC.sumWords data = n) := by
        show _ = _
        have := hq.out
        rw [List.drop_eq_nil_of_le (by rw [← HD.out]; exact Nat.le_refl _)] at this
        rw [← this]; rfl
      clear hq
      have hy : Hid (OC.tooMuch ⟨name, data, ops, globals, procs, labels⟩ = decide ((7800 : Int) < (n : Int))) := by
        show _ = _
        have e1 : ¬ (40000 : Int) < (ol : Int) := by omega
        have e2 : ¬ (2000 : Int) < (k : Int) := by omega
        have e3 : ¬ 200 < procs := by omega
        have e4 : ¬ 20000 < labels := by omega
        rw [hyes.out, hfin.out, decide_eq_false e1, decide_eq_false e2, decide_eq_false e3, decide_eq_false e4]; simp
      go_wp2
      all_goals go_ret
      all_goals exact ⟨by rw [hy.out]; first | rfl | simp, hbl⟩
end Go.Proofs.YthlakfgpmggceaaDoor
