/- Code and areas as a law's arguments; what every law of this layer asks first and last. -/
import Derived.Test.YtfnkafnjpldaoaaDoorOcOpen
import Derived.Lib.SmallJoins
namespace Go.Proofs.YtfnkafnjpldaoaaDoor
open Go.ChangeShapes Go.WideShapes Go.ChangeAt Go.RowKit Go.Deep
set_option linter.unusedVariables false
set_option maxRecDepth 100000
structure OkC (c : OC.Code) : Prop where
  data : ∀ d ∈ c.data, okDat d
  ops : ∀ o ∈ c.ops, okOp o
  globals : ∀ e ∈ c.globals, okEnt e
  procs : okI c.procs
  labels : okI c.labels
theorem slice_form {H : Type} {enc : TypeId × Value → H} {W : World} {fuel : Nat} {d : DataW H} {p : List MemPlace} {T E : TypeId} {v : Value}
    (hT : Tryd.prog.underlying T = some (.slice E)) (h : DataW.trod enc Tryd.prog W 0 (fun _ => true) true fuel T [v] = some (d, p)) : ∃ a len cap, v = .slice a len cap := by
  rcases open_slice hT h with ⟨hcs, _⟩ | ⟨x, l, c, m, n, D, Pl, hcs, _⟩ <;> simp at hcs <;> exact ⟨_, _, _, hcs⟩
theorem open_code {H : Type} {enc : TypeId × Value → H} {W : World} {r : Reach} {b0 : Nat} {v : Value} {d : DataW H} {p : List MemPlace}
    (hv : Value.okWide Tryd.prog W r b0 26 v) (h : DataW.Trod enc Tryd.prog W 0 (fun _ => true) true 26 v d p) (hw : ∀ n ∈ d.weights Tryd.prog 26, n ≤ reachBytes) :
    ∃ (c : OC.Code) (da oa ga : Option Addr) (dl dc ol oc gl gc : Nat), v = codeV c da oa ga dl dc ol oc gl gc ∧ CodeIn W c da oa ga dl dc ol oc gl gc ∧ OkC c := by
  obtain ⟨cs, rfl, hsz⟩ := okWide_struct Tryd.underlying26 hv
  obtain ⟨fuel, hf⟩ := h
  have c6 : Tryd.prog.cellsOf 26 = 6 := by kernel_rfl
  rw [c6] at hsz
  obtain ⟨l⟩ := cs
  match l, hsz with
  | [a0, a1, a2, a3, a4, a5], _ =>
    have hf1 : DataW.trod enc Tryd.prog W 0 (fun _ => true) true fuel 26 [a0, a1, a2, a3, a4, a5] = some (d, p) := by simpa [Value.cells] using hf
    obtain ⟨xs, n', _, hx, hl, hxl, hg⟩ := DataW.trod_struct Tryd.underlying26 hf1
    match xs, hxl with
    | [x0, x1, x2, x3, x4, x5], _ =>
      have c1 : Tryd.prog.cellsOf 9 = 1 := by kernel_rfl
      have c2 : Tryd.prog.cellsOf 22 = 1 := by kernel_rfl
      have c3 : Tryd.prog.cellsOf 23 = 1 := by kernel_rfl
      have c4 : Tryd.prog.cellsOf 24 = 1 := by kernel_rfl
      have c5 : Tryd.prog.cellsOf 3 = 1 := by kernel_rfl
      have h0 : DataW.trod enc Tryd.prog W 0 (fun _ => true) true n' 9 (([a0, a1, a2, a3, a4, a5].drop 0).take (Tryd.prog.cellsOf 9)) = some x0 := hg 0 _ rfl
      have h1 : DataW.trod enc Tryd.prog W 0 (fun _ => true) true n' 22 (([a0, a1, a2, a3, a4, a5].drop 1).take (Tryd.prog.cellsOf 22)) = some x1 := hg 1 _ rfl
      have h2 : DataW.trod enc Tryd.prog W 0 (fun _ => true) true n' 23 (([a0, a1, a2, a3, a4, a5].drop 2).take (Tryd.prog.cellsOf 23)) = some x2 := hg 2 _ rfl
      have h3 : DataW.trod enc Tryd.prog W 0 (fun _ => true) true n' 24 (([a0, a1, a2, a3, a4, a5].drop 3).take (Tryd.prog.cellsOf 24)) = some x3 := hg 3 _ rfl
      have h4 : DataW.trod enc Tryd.prog W 0 (fun _ => true) true n' 3 (([a0, a1, a2, a3, a4, a5].drop 4).take (Tryd.prog.cellsOf 3)) = some x4 := hg 4 _ rfl
      have h5 : DataW.trod enc Tryd.prog W 0 (fun _ => true) true n' 3 (([a0, a1, a2, a3, a4, a5].drop 5).take (Tryd.prog.cellsOf 3)) = some x5 := hg 5 _ rfl
      rw [c1] at h0; rw [c2] at h1; rw [c3] at h2; rw [c4] at h3; rw [c5] at h4 h5
      simp only [List.drop_zero, List.drop_succ_cons, List.take_succ_cons, List.take_zero] at h0 h1 h2 h3 h4 h5
      have hwt : ∀ n, (n ∈ x0.1.weights Tryd.prog 9 ∨ n ∈ x1.1.weights Tryd.prog 22 ∨ n ∈ x2.1.weights Tryd.prog 23 ∨ n ∈ x3.1.weights Tryd.prog 24) → n ≤ reachBytes := by
        intro n hn
        refine hw n ?_
        rw [show d = _ from congrArg Prod.fst hx]
        simp only [DataW.weights, Tryd.underlying26]
        simp only [List.map_cons, List.map_nil, DataW.weightsEach, List.mem_append]
        rcases hn with hn | hn | hn | hn <;> simp [hn]
      obtain ⟨s, e0, y0, _⟩ := DataW.trod_string Tryd.underlying9 h0
      obtain ⟨da, dl, dc, rfl⟩ := slice_form (d := x1.1) (p := x1.2) Tryd.underlying22 h1
      obtain ⟨oa, ol, oc, rfl⟩ := slice_form (d := x2.1) (p := x2.2) Tryd.underlying23 h2
      obtain ⟨ga, gl, gc, rfl⟩ := slice_form (d := x3.1) (p := x3.2) Tryd.underlying24 h3
      obtain ⟨pr, e4, _, w4⟩ := DataW.trod_int Tryd.underlying3 h4
      obtain ⟨lb, e5, _, w5⟩ := DataW.trod_int Tryd.underlying3 h5
      have hsl : s.data.toList.length ≤ reachBytes := hwt _ (.inl (by rw [y0]; simp [DataW.weights]))
      obtain ⟨D, hD, okD⟩ := rdP_of_trod (d := x1.1) (p := x1.2) DatAt OC.dz okDat Tryd.underlying22 (by kernel_rfl : Tryd.prog.cellsOf 43 = 3) (by decide) (by rw [show Tryd.prog.bytesOf 43 = 48 by kernel_rfl]; decide) (fun n cs x h hw => trod_datRow n cs x h hw) h1 (fun n hn => hwt n (.inr (.inl hn)))
      obtain ⟨O, hO, okO⟩ := rdP_of_trod (d := x2.1) (p := x2.2) OpAt OC.oz okOp Tryd.underlying23 (by kernel_rfl : Tryd.prog.cellsOf 35 = 3) (by decide) (by rw [show Tryd.prog.bytesOf 35 = 24 by kernel_rfl]; decide) (fun n cs x h _ => trod_opRow n cs x h) h2 (fun n hn => hwt n (.inr (.inr (.inl hn))))
      obtain ⟨G, hG, okG⟩ := rdP_of_trod (d := x3.1) (p := x3.2) EntAt OC.ez okEnt Tryd.underlying24 (by kernel_rfl : Tryd.prog.cellsOf 68 = 2) (by decide) (by rw [show Tryd.prog.bytesOf 68 = 16 by kernel_rfl]; decide) (fun n cs x h _ => trod_entRow n cs x h) h3 (fun n hn => hwt n (.inr (.inr (.inr hn))))
      simp only [List.cons.injEq, and_true] at e0 e4 e5
      subst e0 e4 e5
      refine ⟨⟨s.data.toList, D, O, G, pr, lb⟩, da, oa, ga, dl, dc, ol, oc, gl, gc, by simp [codeV], ⟨hD, hO, hG, by simp only [reachBytes] at hsl; exact Nat.le_trans hsl (by decide)⟩, ⟨okD, okO, okG, wf_i64_bd w4, wf_i64_bd w5⟩⟩
theorem open_data {H : Type} {enc : TypeId × Value → H} {W : World} {r : Reach} {b0 : Nat} {v : Value} {d : DataW H} {p : List MemPlace}
    (hv : Value.okWide Tryd.prog W r b0 43 v) (h : DataW.Trod enc Tryd.prog W 0 (fun _ => true) true 43 v d p) (hw : ∀ n ∈ d.weights Tryd.prog 43, n ≤ reachBytes) :
    ∃ (x : OC.Dat) (u : Value), v = .agg #[.string ⟨x.text.toArray⟩, .bool x.isText, u] ∧ Rd .i64 W u x.words ∧ okDat x := by
  obtain ⟨cs, rfl, hsz⟩ := okWide_struct Tryd.underlying43 hv
  obtain ⟨fuel, hf⟩ := h
  have c6 : Tryd.prog.cellsOf 43 = 3 := by kernel_rfl
  rw [c6] at hsz
  obtain ⟨l⟩ := cs
  match l, hsz with
  | [a0, a1, a2], _ =>
    have hf1 : DataW.trod enc Tryd.prog W 0 (fun _ => true) true fuel 43 [a0, a1, a2] = some (d, p) := by simpa [Value.cells] using hf
    obtain ⟨xs, n', _, hx, hl, hxl, hg⟩ := DataW.trod_struct Tryd.underlying43 hf1
    match xs, hxl with
    | [x0, x1, x2], _ =>
      have c1 : Tryd.prog.cellsOf 9 = 1 := by kernel_rfl
      have c4 : Tryd.prog.cellsOf 4 = 1 := by kernel_rfl
      have c5 : Tryd.prog.cellsOf 29 = 1 := by kernel_rfl
      have c3 : Tryd.prog.cellsOf 3 = 1 := by kernel_rfl
      have h0 : DataW.trod enc Tryd.prog W 0 (fun _ => true) true n' 9 (([a0, a1, a2].drop 0).take (Tryd.prog.cellsOf 9)) = some x0 := hg 0 _ rfl
      have h1 : DataW.trod enc Tryd.prog W 0 (fun _ => true) true n' 4 (([a0, a1, a2].drop 1).take (Tryd.prog.cellsOf 4)) = some x1 := hg 1 _ rfl
      have h2 : DataW.trod enc Tryd.prog W 0 (fun _ => true) true n' 29 (([a0, a1, a2].drop 2).take (Tryd.prog.cellsOf 29)) = some x2 := hg 2 _ rfl
      rw [c1] at h0; rw [c4] at h1; rw [c5] at h2
      simp only [List.drop_zero, List.drop_succ_cons, List.take_succ_cons, List.take_zero] at h0 h1 h2
      have hwt : ∀ n, (n ∈ x0.1.weights Tryd.prog 9 ∨ n ∈ x2.1.weights Tryd.prog 29) → n ≤ reachBytes := by
        intro n hn
        refine hw n ?_
        rw [show d = _ from congrArg Prod.fst hx]
        simp only [DataW.weights, Tryd.underlying43]
        simp only [List.map_cons, List.map_nil, DataW.weightsEach, List.mem_append]
        rcases hn with hn | hn <;> simp [hn]
      obtain ⟨s, e0, y0, _⟩ := DataW.trod_string Tryd.underlying9 h0
      obtain ⟨f, e1, _, _⟩ := DataW.trod_bool Tryd.underlying4 h1
      obtain ⟨a, len, cap, rfl⟩ := slice_form (d := x2.1) (p := x2.2) Tryd.underlying29 h2
      obtain ⟨zs, hz⟩ := isRow_of_trod (d := x2.1) (p := x2.2) Tryd.underlying29 Tryd.underlying3 c3 ⟨n', by simpa [Value.cells] using h2⟩
      have hcap := cap_of_weights (d := x2.1) (p := x2.2) Tryd.underlying29 (by rw [show Tryd.prog.bytesOf 3 = 8 by kernel_rfl]; decide) h2 (fun n hn => hwt n (.inr hn))
      have hsl : s.data.toList.length ≤ reachBytes := hwt _ (.inl (by rw [y0]; simp [DataW.weights]))
      have hlen : len ≤ 140737488355328 := by
        rcases hz with ⟨_, rfl, _⟩ | ⟨_, _, h1, h2, _⟩
        · omega
        · omega
      simp only [List.cons.injEq, and_true] at e0 e1
      subst e0 e1
      exact ⟨⟨s.data.toList, f, zs.take len⟩, _, by simp, hz.rd hlen, ⟨by simp only [reachBytes] at hsl; exact Nat.le_trans hsl (by decide), fun n hn => wf_i64_bd (hz.bd n hn)⟩⟩
end Go.Proofs.YtfnkafnjpldaoaaDoor
