/- Whether areas and entries are as said, in the document's words. -/
import Derived.Test.YthlakfgpmggceaaDoorOcPl
import Derived.Test.YthlakfgpmggceaaDoorLxQuoR
namespace Go.Proofs.YthlakfgpmggceaaDoor
open Go.RowKit
set_option linter.unusedVariables false
set_option linter.unusedSimpArgs false
def datOk (d : OC.Dat) : Bool :=
  if d.isText then decide ((LX.quoteR d.text).2 = 0) && decide (d.words.length = 0) else decide (d.text = []) && decide (0 < d.words.length) && d.words.all OC.wordOk
def areasB (c : OC.Code) : Bool := c.data.all datOk && OC.entB c.procs [] c.globals && decide ((LX.quoteR c.name).2 = 0)
theorem quoteT_c (text : List UInt8) (w : World) (hs : text.length ≤ 140737488351232) :
    Calls Tryd.prog 57 #[.string ⟨text.toArray⟩] w fun e w' => e = .returned (.tuple #[.string ⟨(LX.quoteR text).1.toArray⟩, .int .i64 ((LX.quoteR text).2 : Int)]) ∧ w = w' := by
  have h := refQuote_c ⟨text.toArray⟩ w (by simpa [ByteArray.size] using hs)
  have e : bs ⟨text.toArray⟩ = text := by simp [bs]
  rwa [e] at h
theorem ents_take {l : List OC.Ent} {j : Nat} {g : Int} (hj : j < l.length) (h : ∀ x ∈ l.take j, x.g ≠ g) (h2 : (l.getD j OC.ez).g ≠ g) : ∀ x ∈ l.take (j + 1), x.g ≠ g := by
  intro x hx
  rw [List.take_succ_eq_append_getElem hj, List.mem_append] at hx
  rcases hx with hx | hx
  · exact h x hx
  · simp at hx; subst hx; rwa [getD_at hj] at h2
set_option maxRecDepth 100000 in
set_option maxHeartbeats 16000000 in
theorem areasR_c (c : OC.Code) (da oa ga : Option Addr) (dl dc ol oc gl gc : Nat) (w : World) (hc : CodeIn w c da oa ga dl dc ol oc gl gc) (hs : Small c) :
    Calls Tryd.prog 43 #[codeV c da oa ga dl dc ol oc gl gc] w fun e w' => e = .returned (.bool (areasB c)) ∧ Below w.heap.size w w' := by
  obtain ⟨hdl, hdc, _⟩ := hc.data.len
  obtain ⟨hgl, hgc, _⟩ := hc.globals.len
  have HC := Lib.hid hc
  have HD := Lib.hid hdl
  have HG := Lib.hid hgl
  have hdl2 : dl ≤ 2000 := by have := hs.weight; have := wsum_len c.data; omega
  have hgl2 : gl ≤ 400 := by have := hs.globals; omega
  have HT : Hid (∀ d ∈ c.data, d.text.length ≤ 2000 ∧ d.words.length ≤ 2000) := fun d hd => by have := wsum_at hd; have := hs.weight; omega
  have hn : c.name.length ≤ 140737488351232 := hc.name
  have HQ := Lib.hid (fun W => quoteT_c c.name W hn)
  obtain ⟨name, data, ops, globals, procs, labels⟩ := c
  dsimp only at *
  clear hdl hgl hc hs hn
  go_enter Tryd.func43, Tryd.ntmps43
  go_wp2
  go_loopw [3] (fun i wr => ∃ (k : Nat), k ≤ dl ∧ i = .int .i64 k ∧ Hid (data.all datOk = (data.drop k).all datOk) ∧ BoxC wr w.heap.size ⟨name, data, ops, globals, procs, labels⟩ da oa ga dl dc ol oc gl gc ∧ Below w.heap.size w wr) (fun i _ => dl - (intOf i).toNat)
  case atStart => exact ⟨0, Nat.zero_le _, rfl, (rfl : data.all datOk = _), BoxC.new w ⟨name, data, ops, globals, procs, labels⟩ _ _ _ _ _ _ _ _ _ _, below_alloc _ _⟩
  case round =>
    obtain ⟨k, hk, rfl, hq, hbox, hbl⟩ := hrel
    have HBOX := Lib.hid hbox
    have hwz := hbox.lt
    obtain ⟨c0, c1, c2, c3, c4, c5⟩ := hbox
    by_cases hlt : k < dl
    · obtain ⟨hx1, b, off, rfl, hat⟩ := (HC.out.keep hbl).data.get hlt
      clear hx1
      obtain ⟨h0, h1, wv, h2, hrd⟩ := hat
      have hkl : k < data.length := by rw [← HD.out]; exact hlt
      have hd := dropAt (d := OC.dz) hkl
      obtain ⟨ht1, ht2⟩ := HT.out _ (getD_map_range data OC.dz hkl)
      generalize data.getD k OC.dz = x at *
      obtain ⟨text, isText, words⟩ := x
      dsimp only at h0 h1 hrd ht1 ht2
      have HRD := Lib.hid hrd
      obtain ⟨wa, wc, rfl, hwl, _⟩ := hrd
      obtain ⟨wl, hwl2⟩ : ∃ wl, words.length = wl := ⟨_, rfl⟩
      have HWL := Lib.hid hwl2
      rw [hwl2] at h2 ht2 HRD
      have hbb : b < wr.heap.size := World.block_lt_of_cell? _ _ h0
      have k1 : (k : Int) < (dl : Int) := by omega
      clear hwl hwl2
      cases isText
      · by_cases htx : text = []
        · subst htx
          by_cases hw0 : wl = 0
          · have hfail : Hid (areasB ⟨name, data, ops, globals, procs, labels⟩ = false) := by
              show areasB _ = _
              unfold areasB
              rw [hq.out, hd]
              simp [datOk, HWL.out, hw0]
            subst hw0
            clear hd hq
            go_wp2
            go_ret
            exact ⟨by rw [hfail.out]; rfl, below_then hbl (below_alloc _ _)⟩
          · have e1 : ((wl : Int) == 0) = false := by simp; omega
            go_wp2
            go_loop [7] (fun i => ∃ j : Nat, j ≤ wl ∧ i = .int .i64 j ∧ Hid (words.all OC.wordOk = (words.drop j).all OC.wordOk)) (fun i => wl - (intOf i).toNat)
            case atStart => exact ⟨0, Nat.zero_le _, rfl, (rfl : words.all OC.wordOk = _)⟩
            case round =>
              obtain ⟨j, hj, rfl, hwq⟩ := hrel
              by_cases hjl : j < wl
              · obtain ⟨hx1, wb, wo, rfl, q1⟩ := HRD.out.get hjl
                clear hx1
                have hjw : j < words.length := by rw [HWL.out]; exact hjl
                have hdw := dropAt (d := (0 : Int)) hjw
                generalize words.getD j 0 = y at *
                have hwb : wb < wr.heap.size := World.block_lt_of_cell? _ _ q1
                have j1 : (j : Int) < (wl : Int) := by omega
                by_cases hy : OC.wordOk y = true
                · have HIN : Hid (∀ W, Calls Tryd.prog 86 #[.int .i64 y, .int .i64 (-2147483648), .int .i64 2147483647] W fun e w' => e = .returned (.bool true) ∧ W = w') := fun W => by have h := inR_c y (-2147483648) 2147483647 W; rwa [show OC.inB y (-2147483648) 2147483647 = true from hy] at h
                  have hwn : Hid (words.all OC.wordOk = (words.drop (j + 1)).all OC.wordOk) := by
                    show _ = _
                    rw [hwq.out, hdw]; simp [hy]
                  clear hd hq hdw hwq hy
                  go_wp2_with (go_at_call 86; refine (HIN.out _).mono ?_; rintro e w1 ⟨rfl, rfl⟩)
                  go_round
                  case rel => exact ⟨j + 1, by omega, by go_num, hwn⟩
                  case measure => simp [intOf]; omega
                · rw [Bool.not_eq_true] at hy
                  have HIN : Hid (∀ W, Calls Tryd.prog 86 #[.int .i64 y, .int .i64 (-2147483648), .int .i64 2147483647] W fun e w' => e = .returned (.bool false) ∧ W = w') := fun W => by have h := inR_c y (-2147483648) 2147483647 W; rwa [show OC.inB y (-2147483648) 2147483647 = false from hy] at h
                  have hfail : Hid (areasB ⟨name, data, ops, globals, procs, labels⟩ = false) := by
                    show areasB _ = _
                    unfold areasB
                    rw [hq.out, hd]
                    have e2 : words.all OC.wordOk = false := by rw [hwq.out, hdw]; simp [hy]
                    simp [datOk, e2]
                  clear hd hq hdw hwq hy
                  go_wp2_with (go_at_call 86; refine (HIN.out _).mono ?_; rintro e w1 ⟨rfl, rfl⟩)
                  go_ret
                  exact ⟨by rw [hfail.out]; rfl, below_then hbl (below_alloc _ _)⟩
              · obtain rfl : wl = j := by omega
                have hnext : Hid (data.all datOk = (data.drop (k + 1)).all datOk) := by
                  show _ = _
                  rw [hq.out, hd]
                  have e2 : words.all OC.wordOk = true := by rw [hwq.out, List.drop_eq_nil_of_le (by rw [HWL.out]; exact Nat.le_refl _)]; rfl
                  have e3 : 0 < words.length := by rw [HWL.out]; omega
                  simp [datOk, e2, e3]
                clear hd hq hwq
                go_wp2
                go_roundw
                case rel => exact ⟨k + 1, by omega, by go_num, hnext, HBOX.out.keep (below_alloc wr _) hwz, below_then hbl (below_alloc _ _)⟩
                case measure => simp [intOf]; omega
        · have hfail : Hid (areasB ⟨name, data, ops, globals, procs, labels⟩ = false) := by
            show areasB _ = _
            unfold areasB
            rw [hq.out, hd]
            simp [datOk, htx]
          have eb1 : (text == []) = false := by cases text with
            | nil => exact absurd rfl htx
            | cons c r => rfl
          have eb2 : text.isEmpty = false := by cases text with
            | nil => exact absurd rfl htx
            | cons c r => rfl
          have eb3 : (!text.isEmpty) = true := by rw [eb2]; rfl
          clear hd hq
          go_wp2
          go_ret
          exact ⟨by rw [hfail.out]; rfl, below_then hbl (below_alloc _ _)⟩
      · obtain ⟨S, hS⟩ : ∃ S, (LX.quoteR text).1 = S := ⟨_, rfl⟩
        obtain ⟨E, hE⟩ : ∃ E, (LX.quoteR text).2 = E := ⟨_, rfl⟩
        have HQT : Hid (∀ W, Calls Tryd.prog 57 #[.string ⟨text.toArray⟩] W fun e w' => e = .returned (.tuple #[.string ⟨S.toArray⟩, .int .i64 (E : Int)]) ∧ W = w') := fun W => by have h := quoteT_c text W (by omega); rwa [hS, hE] at h
        by_cases hE0 : E = 0
        · by_cases hw0 : wl = 0
          · have hnext : Hid (data.all datOk = (data.drop (k + 1)).all datOk) := by
              show _ = _
              rw [hq.out, hd]
              simp [datOk, HWL.out, hw0, hE, hE0]
            subst hw0
            subst hE0
            clear hd hq hS hE
            go_wp2_with (go_at_call 57; refine (HQT.out _).mono ?_; rintro e w1 ⟨rfl, rfl⟩)
            go_roundw
            case rel => exact ⟨k + 1, by omega, by go_num, hnext, HBOX.out.keep (below_alloc wr _) hwz, below_then hbl (below_alloc _ _)⟩
            case measure => simp [intOf]; omega
          · have hfail : Hid (areasB ⟨name, data, ops, globals, procs, labels⟩ = false) := by
              show areasB _ = _
              unfold areasB
              rw [hq.out, hd]
              simp [datOk, HWL.out, hw0]
            have ew : decide ((0 : Int) < (wl : Int)) = true := by rw [decide_eq_true_iff]; omega
            have ewn : 0 < wl := by omega
            subst hE0
            clear hd hq hS hE
            go_wp2_with (go_at_call 57; refine (HQT.out _).mono ?_; rintro e w1 ⟨rfl, rfl⟩)
            go_ret
            exact ⟨by rw [hfail.out]; rfl, below_then hbl (below_alloc _ _)⟩
        · have hfail : Hid (areasB ⟨name, data, ops, globals, procs, labels⟩ = false) := by
            show areasB _ = _
            unfold areasB
            rw [hq.out, hd]
            simp [datOk, hE, hE0]
          have ee : ((E : Int) != 0) = true := by simp; omega
          have ee2 : ((E : Int) == 0) = false := by simp; omega
          clear hd hq hS hE hE0
          go_wp2_with (go_at_call 57; refine (HQT.out _).mono ?_; rintro e w1 ⟨rfl, rfl⟩)
          go_ret
          exact ⟨by rw [hfail.out]; rfl, below_then hbl (below_alloc _ _)⟩
    · obtain rfl : dl = k := by omega
      have HDA : Hid (data.all datOk = true) := by
        show _ = _
        rw [hq.out, List.drop_eq_nil_of_le (by rw [← HD.out]; exact Nat.le_refl _)]; rfl
      clear hq
      go_wp2
      clear c0 c1 c2 c3 c4 c5
      go_loopw [8] (fun i wr => ∃ (j : Nat), j ≤ gl ∧ i = .int .i64 j ∧ Hid (OC.entB procs [] globals = OC.entB procs (globals.take j) (globals.drop j)) ∧ BoxC wr w.heap.size ⟨name, data, ops, globals, procs, labels⟩ da oa ga dl dc ol oc gl gc ∧ Below w.heap.size w wr) (fun i _ => gl - (intOf i).toNat)
      case atStart => exact ⟨0, Nat.zero_le _, rfl, (rfl : OC.entB procs [] globals = _), HBOX.out, hbl⟩
      case round =>
        clear HBOX hwz hbl
        obtain ⟨j, hj, rfl, hq, hbox, hbl⟩ := hrel
        obtain ⟨W0, hW0⟩ : ∃ W0, W0 = wr := ⟨_, rfl⟩
        subst hW0
        have HBOX := Lib.hid hbox
        have hwz := hbox.lt
        obtain ⟨c0, c1, c2, c3, c4, c5⟩ := hbox
        by_cases hlt : j < gl
        · have HGI := Lib.hid (HC.out.keep hbl).globals
          obtain ⟨hx1, b, off, rfl, h0, h1⟩ := HGI.out.get hlt
          clear hx1
          have hkl : j < globals.length := by rw [← HG.out]; exact hlt
          have hd := dropAt (d := OC.ez) hkl
          have hpre : globals.take (j + 1) = globals.take j ++ [globals.getD j OC.ez] := by rw [List.take_succ_eq_append_getElem hkl, getD_at hkl]
          generalize globals.getD j OC.ez = x at *
          obtain ⟨eg, ep⟩ := x
          dsimp only at h0 h1
          have hbb : b < W0.heap.size := World.block_lt_of_cell? _ _ h0
          have k1 : (j : Int) < (gl : Int) := by omega
          by_cases hg : OC.inB eg 1 199 = true
          case neg =>
            rw [Bool.not_eq_true] at hg
            have hfail : Hid (areasB ⟨name, data, ops, globals, procs, labels⟩ = false) := by
              show areasB _ = _
              unfold areasB
              rw [hq.out, hd, OC.entB]; simp [hg]
            clear hd hq hpre
            go_wp2_with (go_at_call 86; refine (inR_c _ _ _ _).mono ?_; rintro e w1 ⟨rfl, rfl⟩)
            go_ret
            exact ⟨by rw [hfail.out]; rfl, below_then hbl (below_alloc _ _)⟩
          by_cases hp : OC.inB ep 1 procs = true
          case neg =>
            rw [Bool.not_eq_true] at hp
            have hfail : Hid (areasB ⟨name, data, ops, globals, procs, labels⟩ = false) := by
              show areasB _ = _
              unfold areasB
              rw [hq.out, hd, OC.entB]; simp [hp]
            clear hd hq hpre
            go_wp2_with (go_at_call 86; refine (inR_c _ _ _ _).mono ?_; rintro e w1 ⟨rfl, rfl⟩)
            go_ret
            exact ⟨by rw [hfail.out]; rfl, below_then hbl (below_alloc _ _)⟩
          have HGG := Lib.hid hg
          have HPP := Lib.hid hp
          have HPRE := Lib.hid hpre
          have HDD := Lib.hid hd
          clear hd hpre
          go_wp2_with (go_at_call 86; refine (inR_c _ _ _ _).mono ?_; rintro e w1 ⟨rfl, rfl⟩)
          go_loopw [10] (fun i w2 => ∃ m : Nat, m ≤ j ∧ i = .int .i64 m ∧ Hid (∀ x ∈ globals.take m, x.g ≠ eg) ∧ Below (W0.alloc (.cells #[.int .i64 eg, .int .i64 ep] 66)).heap.size (W0.alloc (.cells #[.int .i64 eg, .int .i64 ep] 66)) w2) (fun i _ => j - (intOf i).toNat)
          case atStart => exact ⟨0, Nat.zero_le _, rfl, (fun x hx => by simp at hx), Below.refl _ _⟩
          case round =>
            obtain ⟨m, hm, rfl, hmq, hb2⟩ := hrel
            obtain ⟨hcc, hff⟩ := bcell hb2
            by_cases hmj : m < j
            · obtain ⟨hx1, b', off', e', q0, q1⟩ := HGI.out.get (i := m) (by omega)
              clear hx1
              simp only [Option.some.injEq, Addr.mk.injEq] at e'
              obtain ⟨rfl, rfl, _⟩ := e'
              have hmk : m < globals.length := by omega
              obtain ⟨y, hy⟩ : ∃ y, globals.getD m OC.ez = y := ⟨_, rfl⟩
              rw [hy] at q0 q1
              obtain ⟨yg, yp⟩ := y
              dsimp only at q0 q1
              have j1 : (m : Int) < (j : Int) := by omega
              have j2 : (m : Int) < (gl : Int) := by omega
              have hbb1 : b < W0.heap.size + 1 := by omega
              have hwz1 : w.heap.size < W0.heap.size + 1 := by omega
              by_cases hyg : yg = eg
              · subst hyg
                have hfail : Hid (areasB ⟨name, data, ops, globals, procs, labels⟩ = false) := by
                  show areasB _ = _
                  unfold areasB
                  rw [hq.out, HDD.out, OC.entB]
                  have e3 : (globals.take j).all (fun x => decide (x.g ≠ yg)) = false := by
                    rw [Bool.eq_false_iff]
                    intro h
                    have h3 := List.all_eq_true.1 h (globals.getD m OC.ez) (by
                      rw [getD_at hmk]
                      rw [List.mem_take_iff_getElem]
                      exact ⟨m, by omega, rfl⟩)
                    rw [hy] at h3
                    simp at h3
                  simp only [e3, Bool.and_false, Bool.false_and]
                clear hq hy
                go_wp2
                go_quiet (fail)
                go_wp2
                go_ret
                exact ⟨by rw [hfail.out]; rfl, below_then hbl (below_then (below_alloc _ _) (below_drewN hb2 _))⟩
              · have hmn : Hid (∀ x ∈ globals.take (m + 1), x.g ≠ eg) := ents_take hmk hmq.out (by rw [hy]; exact hyg)
                have eyg : (yg == eg) = false := by simpa using hyg
                clear hy hyg
                go_wp2
                go_quiet (fail)
                go_wp2
                go_roundw
                case rel => exact ⟨m + 1, by omega, by go_num, hmn, below_drewN hb2 _⟩
                case measure => simp [intOf]; omega
            · obtain rfl : j = m := by omega
              have hnext : Hid (OC.entB procs [] globals = OC.entB procs (globals.take (j + 1)) (globals.drop (j + 1))) := by
                show _ = _
                rw [hq.out, HDD.out, OC.entB, HPRE.out]
                have e3 : (globals.take j).all (fun x => decide (x.g ≠ eg)) = true := by
                  rw [List.all_eq_true]
                  intro x hx
                  simpa using hmq.out x hx
                simp only [HGG.out, HPP.out, e3, Bool.true_and]
              clear hq hmq
              go_wp2
              go_roundw
              case rel => exact ⟨j + 1, by omega, by go_num, hnext, HBOX.out.keep (below_then (below_alloc _ _) hb2) hwz, below_then hbl (below_then (below_alloc _ _) hb2)⟩
              case measure => simp [intOf]; omega
        · obtain rfl : gl = j := by omega
          obtain ⟨S, hS⟩ : ∃ S, (LX.quoteR name).1 = S := ⟨_, rfl⟩
          obtain ⟨E, hE⟩ : ∃ E, (LX.quoteR name).2 = E := ⟨_, rfl⟩
          have HQT : Hid (∀ W, Calls Tryd.prog 57 #[.string ⟨name.toArray⟩] W fun e w' => e = .returned (.tuple #[.string ⟨S.toArray⟩, .int .i64 (E : Int)]) ∧ W = w') := fun W => by have h := HQ.out W; rwa [hS, hE] at h
          have HFIN : Hid (areasB ⟨name, data, ops, globals, procs, labels⟩ = decide (E = 0)) := by
            show areasB _ = _
            unfold areasB
            rw [HDA.out, hq.out, List.drop_eq_nil_of_le (by rw [← HG.out]; exact Nat.le_refl _)]
            simp [OC.entB, hE]
          clear hq hS hE
          by_cases hE0 : E = 0
          · subst hE0
            go_wp2_with (go_at_call 57; refine (HQT.out _).mono ?_; rintro e w1 ⟨rfl, rfl⟩)
            go_ret
            exact ⟨by rw [HFIN.out]; rfl, hbl⟩
          · have ee2 : ((E : Int) == 0) = false := by simp; omega
            have hno : Hid (decide (E = 0) = false) := by show _ = _; simpa using hE0
            clear hE0
            go_wp2_with (go_at_call 57; refine (HQT.out _).mono ?_; rintro e w1 ⟨rfl, rfl⟩)
            go_ret
            exact ⟨by rw [HFIN.out, hno.out]; rfl, hbl⟩
end Go.Proofs.YthlakfgpmggceaaDoor
