/- Single instructions, in the document's words: which label they name, what depth they leave, what they need. -/
import Derived.Test.YthlakfgpmggceaaDoorOcRd
import Derived.Outline
import Derived.IntWalk
import Derived.Deep.Light
namespace Go.Proofs.YthlakfgpmggceaaDoor
open Go.RowKit
set_option linter.unusedVariables false
set_option linter.unusedSimpArgs false
theorem inR_c (v a b : Int) (w : World) :
    Calls Tryd.prog 86 #[.int .i64 v, .int .i64 a, .int .i64 b] w fun e w' => e = .returned (.bool (OC.inB v a b)) ∧ w = w' := by
  go_enter Tryd.func86, Tryd.ntmps86
  go_wp2
  all_goals go_ret
  all_goals refine ⟨?_, rfl⟩
  all_goals go_light
  all_goals (by_cases h1 : a ≤ v <;> by_cases h2 : v ≤ b <;> simp_all [OC.inB] <;> omega)
set_option maxHeartbeats 2000000 in
theorem labelR_c (o : OC.Op) (w : World) :
    Calls Tryd.prog 36 #[opVal o] w fun e w' => e = .returned (.int .i64 (OC.label o)) ∧ Below w.heap.size w w' := by
  obtain ⟨op, n, m⟩ := o
  go_enter Tryd.func36, Tryd.ntmps36
  go_wp2
  all_goals go_ret
  all_goals refine ⟨?_, below_alloc _ _⟩
  all_goals go_light
  all_goals simp_all [OC.label]
set_option maxHeartbeats 2000000 in
theorem goesonR_c (o : OC.Op) (w : World) :
    Calls Tryd.prog 87 #[opVal o] w fun e w' => e = .returned (.bool (OC.goesOn o)) ∧ Below w.heap.size w w' := by
  obtain ⟨op, n, m⟩ := o
  go_enter Tryd.func87, Tryd.ntmps87
  go_wp2
  all_goals go_ret
  all_goals refine ⟨?_, below_alloc _ _⟩
  all_goals go_light
  all_goals (by_cases h : op = 30 <;> simp_all [OC.goesOn])
set_option maxHeartbeats 2000000 in
theorem needsR_c (o : OC.Op) (w : World) :
    Calls Tryd.prog 88 #[opVal o] w fun e w' => e = .returned (.int .i64 (OC.needs o)) ∧ Below w.heap.size w w' := by
  obtain ⟨op, n, m⟩ := o
  go_enter Tryd.func88, Tryd.ntmps88
  go_wp2
  all_goals go_ret
  all_goals refine ⟨?_, below_alloc _ _⟩
  all_goals go_light
  all_goals simp_all [OC.needs]
set_option maxHeartbeats 2000000 in
theorem afterR_c (o : OC.Op) (d : Int) (w : World) (h1 : -2147483648 ≤ o.n) (h2 : o.n ≤ 2147483647) (h3 : -2147483648 ≤ o.m) (h4 : o.m ≤ 2147483647) (h5 : -2147483648 ≤ d) (h6 : d ≤ 2147483647) :
    Calls Tryd.prog 35 #[opVal o, .int .i64 d] w fun e w' => e = .returned (.int .i64 (OC.after o d)) ∧ Below w.heap.size w w' := by
  obtain ⟨op, n, m⟩ := o
  dsimp only at h1 h2 h3 h4
  go_enter Tryd.func35, Tryd.ntmps35
  go_wp2
  all_goals go_ret
  all_goals refine ⟨?_, below_alloc _ _⟩
  all_goals go_light
  all_goals simp_all [OC.after]
set_option maxHeartbeats 2000000 in
theorem localR_c (o : OC.Op) (d : Int) (w : World) (h5 : -2147483648 ≤ d) (h6 : d ≤ 2147483647) :
    Calls Tryd.prog 89 #[opVal o, .int .i64 d] w fun e w' => e = .returned (.bool (OC.localB o d)) ∧ Below w.heap.size w w' := by
  obtain ⟨op, n, m⟩ := o
  go_enter Tryd.func89, Tryd.ntmps89
  go_wp2_with (go_at_call 86; refine (inR_c _ _ _ _).mono ?_; rintro e w1 ⟨rfl, rfl⟩)
  all_goals go_ret
  all_goals refine ⟨?_, below_alloc _ _⟩
  all_goals go_light
  all_goals (simp_all [OC.localB] <;> omega)
set_option maxRecDepth 100000 in
set_option maxHeartbeats 8000000 in
/-- the numbers of one instruction -/
theorem numbersR_c (c : OC.Code) (da oa ga : Option Addr) (dl dc ol oc gl gc : Nat) (o : OC.Op) (w : World) (hd : dl ≤ 140737488355328) :
    Calls Tryd.prog 44 #[codeV c da oa ga dl dc ol oc gl gc, opVal o] w fun e w' => e = .returned (.bool (OC.numB (dl : Int) c.procs c.labels o)) ∧ Below w.heap.size w w' := by
  obtain ⟨op, n, m⟩ := o
  obtain ⟨name, data, ops, globals, procs, labels⟩ := c
  have hd2 : (dl : Int) ≤ 140737488355328 := by omega
  have hd3 : (0 : Int) ≤ (dl : Int) := by omega
  clear hd
  by_cases hA : OC.inB op 1 30 = true
  case neg =>
    rw [Bool.not_eq_true] at hA
    go_enter Tryd.func44, Tryd.ntmps44
    go_wp2_with (go_at_call 86; refine (inR_c _ _ _ _).mono ?_; rintro e w1 ⟨rfl, rfl⟩)
    all_goals go_ret
    all_goals refine ⟨?_, below_then (below_alloc _ _) (below_alloc _ _)⟩
    all_goals go_light
    all_goals (simp_all [OC.numB] <;> first | rfl | (by_cases hx : n = 19 <;> simp_all))
  by_cases hB : OC.inB n (-2147483648) 2147483647 = true
  case neg =>
    rw [Bool.not_eq_true] at hB
    go_enter Tryd.func44, Tryd.ntmps44
    go_wp2_with (go_at_call 86; refine (inR_c _ _ _ _).mono ?_; rintro e w1 ⟨rfl, rfl⟩)
    all_goals go_ret
    all_goals refine ⟨?_, below_then (below_alloc _ _) (below_alloc _ _)⟩
    all_goals go_light
    all_goals (simp_all [OC.numB] <;> first | rfl | (by_cases hx : n = 19 <;> simp_all))
  by_cases hC : OC.inB m (-2147483648) 2147483647 = true
  case neg =>
    rw [Bool.not_eq_true] at hC
    go_enter Tryd.func44, Tryd.ntmps44
    go_wp2_with (go_at_call 86; refine (inR_c _ _ _ _).mono ?_; rintro e w1 ⟨rfl, rfl⟩)
    all_goals go_ret
    all_goals refine ⟨?_, below_then (below_alloc _ _) (below_alloc _ _)⟩
    all_goals go_light
    all_goals (simp_all [OC.numB] <;> first | rfl | (by_cases hx : n = 19 <;> simp_all))
  by_cases h24 : op = 24
  case pos =>
    subst h24
    go_enter Tryd.func44, Tryd.ntmps44
    go_wp2_with (go_at_call 86; refine (inR_c _ _ _ _).mono ?_; rintro e w1 ⟨rfl, rfl⟩)
    all_goals go_ret
    all_goals refine ⟨?_, below_then (below_alloc _ _) (below_alloc _ _)⟩
    all_goals go_light
    all_goals (simp_all [OC.numB] <;> first | rfl | (by_cases hx : n = 19 <;> simp_all))
  by_cases h29 : op = 29
  case pos =>
    subst h29
    go_enter Tryd.func44, Tryd.ntmps44
    go_wp2_with (go_at_call 86; refine (inR_c _ _ _ _).mono ?_; rintro e w1 ⟨rfl, rfl⟩)
    all_goals go_ret
    all_goals refine ⟨?_, below_then (below_alloc _ _) (below_alloc _ _)⟩
    all_goals go_light
    all_goals (simp_all [OC.numB] <;> first | rfl | (by_cases hx : n = 19 <;> simp_all))
  by_cases h30 : op = 30
  case pos =>
    subst h30
    go_enter Tryd.func44, Tryd.ntmps44
    go_wp2_with (go_at_call 86; refine (inR_c _ _ _ _).mono ?_; rintro e w1 ⟨rfl, rfl⟩)
    all_goals go_ret
    all_goals refine ⟨?_, below_then (below_alloc _ _) (below_alloc _ _)⟩
    all_goals go_light
    all_goals (simp_all [OC.numB] <;> first | rfl | (by_cases hx : n = 19 <;> simp_all))
  have e24 : (op == 24) = false := by simpa using h24
  have e29 : (op == 29) = false := by simpa using h29
  have e30 : (op == 30) = false := by simpa using h30
  have n24 : (op != 24) = true := by simpa using h24
  have n29 : (op != 29) = true := by simpa using h29
  have n30 : (op != 30) = true := by simpa using h30
  clear h24 h29 h30
  by_cases hm : m = 0
  · subst hm
    go_enter Tryd.func44, Tryd.ntmps44
    go_wp2_with (go_at_call 86; refine (inR_c _ _ _ _).mono ?_; rintro e w1 ⟨rfl, rfl⟩)
    all_goals go_ret
    all_goals refine ⟨?_, below_then (below_alloc _ _) (below_alloc _ _)⟩
    all_goals go_light
    all_goals (simp_all [OC.numB] <;> first | rfl | (by_cases hx : n = 19 <;> simp_all))
  · have em : (m != 0) = true := by simpa using hm
    clear hm
    go_enter Tryd.func44, Tryd.ntmps44
    go_wp2_with (go_at_call 86; refine (inR_c _ _ _ _).mono ?_; rintro e w1 ⟨rfl, rfl⟩)
    all_goals go_ret
    all_goals refine ⟨?_, below_then (below_alloc _ _) (below_alloc _ _)⟩
    all_goals go_light
    all_goals (simp_all [OC.numB] <;> first | rfl | (by_cases hx : n = 19 <;> simp_all))
end Go.Proofs.YthlakfgpmggceaaDoor
