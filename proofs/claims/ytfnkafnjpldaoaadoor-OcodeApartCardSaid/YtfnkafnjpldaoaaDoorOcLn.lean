/- Whether an OTake stands behind labels; how heavy code is: the statements' own bound. -/
import Derived.Test.YtfnkafnjpldaoaaDoorOcFn
import Derived.Test.YtfnkafnjpldaoaaDoorAppOne
import Derived.Test.YtfnkafnjpldaoaaDoorEq
namespace Go.Proofs.YtfnkafnjpldaoaaDoor
open Go.RowKit
set_option linter.unusedVariables false
theorem dropAt {α : Type} {l : List α} {k : Nat} {d : α} (hk : k < l.length) : l.drop k = l.getD k d :: l.drop (k + 1) := by
  rw [getD_at hk]; exact List.drop_eq_getElem_cons hk
/-- how much an area weighs -/
def heavyGo : List OC.Dat → Nat → Nat
  | [], n => n
  | d :: r, n => if n ≤ 2000 then heavyGo r (n + 1 + d.text.length + d.words.length) else n
def heavyC (c : OC.Code) (ops : Nat) : Bool := decide (ops < c.ops.length) || decide (400 < c.globals.length) || decide (2000 < heavyGo c.data c.name.length)
theorem heavyGo_ge : ∀ (l : List OC.Dat) (n : Nat), n ≤ heavyGo l n
  | [], n => by simp [heavyGo]
  | d :: r, n => by
    rw [heavyGo]; split
    · have := heavyGo_ge r (n + 1 + d.text.length + d.words.length); omega
    · omega
set_option maxRecDepth 100000 in
set_option maxHeartbeats 2000000 in
theorem HeavyCode_c (c : OC.Code) (da oa ga : Option Addr) (dl dc ol oc gl gc : Nat) (L : Nat) (w : World) (hL : L ≤ 1000000) (hc : CodeIn w c da oa ga dl dc ol oc gl gc) (ht : ∀ d ∈ c.data, d.text.length ≤ 140737488351232) :
    Calls Tryd.prog 10 #[codeV c da oa ga dl dc ol oc gl gc, .int .i64 (L : Int)] w fun e w' => e = .returned (.bool (heavyC c L)) ∧ Below w.heap.size w w' := by
  obtain ⟨hdl, hdc, _⟩ := hc.data.len
  obtain ⟨hol, hoc, _⟩ := hc.ops.len
  obtain ⟨hgl, hgc, _⟩ := hc.globals.len
  have HC := Lib.hid hc
  have HD := Lib.hid hdl
  have hn := hc.name
  have hyes : Hid (heavyC c L = (decide ((L : Int) < (ol : Int)) || decide ((400 : Int) < (gl : Int)) || decide ((2000 : Int) < (heavyGo c.data c.name.length : Int)))) := by
    show _ = _
    unfold heavyC
    rw [← hol, ← hgl]
    rw [show decide ((L : Int) < (ol : Int)) = decide (L < ol) by simp, show decide ((400 : Int) < (gl : Int)) = decide (400 < gl) by rw [decide_eq_decide]; omega, show decide ((2000 : Int) < (heavyGo c.data c.name.length : Int)) = decide (2000 < heavyGo c.data c.name.length) by rw [decide_eq_decide]; omega]
  have HT := Lib.hid ht
  obtain ⟨name, data, ops, globals, procs, labels⟩ := c
  dsimp only at *
  clear hdl hol hgl hc ht
  have hsz : (⟨name.toArray⟩ : ByteArray).size = name.length := by simp [ByteArray.size]
  go_enter Tryd.func10, Tryd.ntmps10
  go_wp2
  have HSZ := Lib.hid hsz
  clear hsz
  go_loopw [5, 6] (fun v i wr => ∃ (k n : Nat), k ≤ dl ∧ i = .int .i64 k ∧ v = .int .i64 n ∧ n ≤ 422212465066000 ∧ Hid (heavyGo data name.length = heavyGo (data.drop k) n) ∧ BoxC wr w.heap.size ⟨name, data, ops, globals, procs, labels⟩ da oa ga dl dc ol oc gl gc ∧ Below w.heap.size w wr) (fun _ i _ => dl - (intOf i).toNat)
  case atStart => exact ⟨0, name.length, Nat.zero_le _, rfl, rfl, by omega, (rfl : heavyGo data name.length = _), BoxC.new w ⟨name, data, ops, globals, procs, labels⟩ _ _ _ _ _ _ _ _ _ _, below_alloc _ _⟩
  case round =>
    obtain ⟨k, n, hk, rfl, rfl, hn2, hq, hbox, hbl⟩ := hrel
    have HBOX := Lib.hid hbox
    obtain ⟨c0, c1, c2, c3, c4, c5⟩ := hbox
    by_cases hlt : k < dl
    · by_cases hn3 : n ≤ 2000
      · obtain ⟨_, b, off, rfl, h0, h1, wv, h2, h3⟩ := (HC.out.keep hbl).data.get hlt
        obtain ⟨wa, wc, rfl, hwl, h3⟩ := h3
        have hkl : k < data.length := by rw [← HD.out]; exact hlt
        have hd := dropAt (d := OC.dz) hkl
        have hdt := HT.out _ (getD_map_range data OC.dz hkl)
        generalize data.getD k OC.dz = x at *
        have hq2 : Hid (heavyGo data name.length = heavyGo (data.drop (k + 1)) (n + 1 + x.text.length + x.words.length)) := by
          show _ = _
          rw [hq.out, hd, heavyGo, if_pos hn3]
        obtain ⟨text, isText, words⟩ := x
        dsimp only at *
        have hts : (⟨text.toArray⟩ : ByteArray).size = text.length := by simp [ByteArray.size]
        have k1 : (k : Int) < (dl : Int) := by omega
        have k2 : (n : Int) ≤ 2000 := by omega
        clear hd h3 hq
        obtain ⟨wl, hwl2⟩ : ∃ wl, words.length = wl := ⟨_, rfl⟩
        obtain ⟨tl, htl2⟩ : ∃ tl, text.length = tl := ⟨_, rfl⟩
        rw [hwl2] at h2 hwl hq2
        rw [htl2] at hts hdt hq2
        have hk64 : k ≤ 140737488355328 := by omega
        clear hwl2 htl2
        go_wp2
        go_quiet (fail)
        go_wp2
        go_roundw
        case rel => exact ⟨k + 1, n + 1 + tl + wl, by omega, by go_num, by go_num, by omega, hq2, HBOX.out.keep (below_drewN (Below.refl _ _) _) HBOX.out.lt, below_drewN hbl _⟩
        case measure => simp [intOf]; omega
      · have k1 : (k : Int) < (dl : Int) := by omega
        have k2 : ¬ (n : Int) ≤ 2000 := by omega
        have hfin : Hid (heavyGo data name.length = n) := by
          show _ = _
          rw [hq.out]
          cases data.drop k with
          | nil => rfl
          | cons d r => rw [heavyGo, if_neg hn3]
        clear hq
        go_wp2
        all_goals go_ret
        all_goals refine ⟨?_, hbl⟩
        all_goals go_light
        all_goals (rw [hyes.out, hfin.out]; simp_all)
    · obtain rfl : k = dl := by omega
      have hfin : Hid (heavyGo data name.length = n) := by
        show _ = _
        rw [hq.out, List.drop_eq_nil_of_le (by rw [← HD.out]; exact Nat.le_refl _)]; rfl
      clear hq
      go_wp2
      all_goals go_ret
      all_goals refine ⟨?_, hbl⟩
      all_goals go_light
      all_goals (rw [hyes.out, hfin.out]; simp_all)
end Go.Proofs.YtfnkafnjpldaoaaDoor
