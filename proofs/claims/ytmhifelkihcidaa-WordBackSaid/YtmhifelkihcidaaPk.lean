/- Pack of package word by its contract, and the statements' own small call awake. -/
import Derived.Test.YtmhifelkihcidaaPack
import Derived.Lib.AppendStr
import Derived.Deep.RegionHeld3
import Derived.Deep.AppendLies
namespace Go.Proofs.Ytmhifelkihcidaa
open Go.RowKit WM
set_option linter.unusedVariables false

theorem step_append_string {P : Program} {ops : Array Oper} {o : Oper} {a : Act} {w : World} {K : Act → World → Prop} {Q : Exit → Act → World → Prop} {E : Prop} (hgd : o.guard = none) (sl x : Operand) (t u : TypeId)
    (ho : o.op = .call { callee := .builtin .append, args := #[sl, x], argTypes := #[t, u] })
    (base : Nat) (e : TypeId) (i : TypeInfo) (ht : P.underlying t = some (.slice e)) (hu : P.underlying u = some .string) (hi : P.info? e = some i) (hz : i.zero = some (.int .u8 0))
    (hsize : i.size = 1) (hby : i.bytes = 1)
    (v : Value) (n : Nat) (xs : List Value) (hs : a.eval sl = v) (hown : w.ownsRow base e 1 v n xs) (s : ByteArray) (hx : a.eval x = .string s)
    (h63 : n + s.size ≤ maxLen) (hbytes : n + s.size ≤ 140737488355328) (hbase : base ≤ w.heap.size)
    (h : ∀ v' w', w'.ownsRow base e 1 v' (n + s.size) (xs ++ Lib.strCells s) → w.grownBy w' v.ownBlock → K (a.put o.dst v') w') :
    if Region.wanted o (yielded ops a.tmps) = true then Oper.wp P o a w K Q else E := by
  have hw : Region.wanted o (yielded ops a.tmps) = true := by simp [Region.wanted, hgd]
  rw [if_pos hw]
  obtain ⟨v', w', hr, h2, h3, h4⟩ := Lib.run_append_own_string (P := P) w base t u o.type e i ht hu hi hz hsize hby v n xs hown s h63 hbytes hbase
  unfold Oper.wp execOp
  simp only [ho, resolve, invoke, builtin, Sem.run_bind, Sem.run_pure, Result.andThen_ok, List.map_toArray, List.map_cons, List.map_nil, hs, hx, hr]
  exact h v' w' h2 h3
theorem info_u8 : (Try.prog.info? 5).map (fun i => (i.zero, i.size, i.bytes)) = some (some (.int .u8 0), 1, 1) := by kernel_rfl
/-- a packed string's bytes -/
def sbytes (s : ByteArray) : List Int := s.data.toList.map fun b => (b.toNat : Int)
def pkb (s : ByteArray) : List Int := (s.size : Int) :: sbytes s
theorem sbytes_len (s : ByteArray) : (sbytes s).length = s.size := by simp [sbytes]
theorem strCells_sbytes (s : ByteArray) : Lib.strCells s = (sbytes s).map (.int .u8) := by simp [Lib.strCells, sbytes]
theorem sbytes_bd (s : ByteArray) (j : Nat) : 0 ≤ (sbytes s).getD j 0 ∧ (sbytes s).getD j 0 ≤ 255 := by
  unfold sbytes
  by_cases h : j < s.data.toList.length
  · have := (s.data.toList[j]).toNat_lt
    simp only [List.getD_eq_getElem?_getD, List.getElem?_map, List.getElem?_eq_getElem h, Option.map_some, Option.getD_some]
    omega
  · simp [List.getElem?_eq_none (Nat.le_of_not_lt h)]
theorem pkb_bd (s : ByteArray) (h : s.size ≤ 255) (j : Nat) : 0 ≤ (pkb s).getD j 0 ∧ (pkb s).getD j 0 ≤ 255 := by
  cases j with
  | zero => show 0 ≤ (s.size : Int) ∧ (s.size : Int) ≤ 255; omega
  | succ j => exact sbytes_bd s j
theorem pkb_len (s : ByteArray) (h : s.size ≤ 255) : (pkb s).length ≤ 2147483647 := by simp [pkb, sbytes_len]; omega
theorem pk_rd {s : ByteArray} (hs : s.size ≤ 255) {w : World} {base : Nat} {e : TypeId} {v : Value} {n : Nat} (h : w.ownsRow base e 1 v n ((#[Value.int .u8 (IntKind.u8.wrap (s.size : Int))]).toList ++ Lib.strCells s)) : Rd .u8 w v (pkb s) := by
  refine Rd.of_owns (base := base) (e := e) (n := n) ?_ (by have := pkb_len s hs; omega)
  rw [strCells_sbytes, IntKind.wrap_u8, Int.emod_eq_of_lt (by omega) (by omega)] at h
  exact h
/-- a list of integers in new memory, and an error -/
def GivesInts2 (ys : List Int) (er : Int) (w : World) (e : Ending) (w' : World) : Prop := ∃ v, e = .returned (.tuple #[v, .int .i64 er]) ∧ Rd .i64 w' v ys ∧ Below w.heap.size w w'
set_option maxHeartbeats 400000 in
theorem Pack_form (s : ByteArray) (n : Int) (g : Bool) (hb : ¬ IsBits n) (w : World) :
    Calls Try.prog 31 #[.string s, .agg #[.int .i64 n, .bool g]] w (GivesInts2 [] 3 w) := by
  go_enter Try.func31, Try.ntmps31
  go_wp2_with (first | (go_at_call 17; refine (Valid_no _ _ hb _).mono ?_; rintro e w1 ⟨rfl, hb1⟩))
  go_ret2
  exact ⟨_, rfl, Rd.nil _ _, (below_alloc w _).trans (hb1.mono (by simp))⟩
set_option maxHeartbeats 400000 in
theorem Pack_limit (s : ByteArray) (n : Int) (g : Bool) (hb : IsBits n) (hs : 255 < s.size) (w : World) :
    Calls Try.prog 31 #[.string s, .agg #[.int .i64 n, .bool g]] w (GivesInts2 [] 2 w) := by
  go_enter Try.func31, Try.ntmps31
  go_wp2_with (first | (go_at_call 17; refine (Valid_yes _ _ hb _).mono ?_; rintro e w1 ⟨rfl, hb1⟩))
  go_ret2
  exact ⟨_, rfl, Rd.nil _ _, (below_alloc w _).trans (hb1.mono (by simp))⟩
set_option maxHeartbeats 1600000 in
theorem Pack_ok (s : ByteArray) (n : Int) (g : Bool) (hb : IsBits n) (hs : s.size ≤ 255) (w : World) :
    Calls Try.prog 31 #[.string s, .agg #[.int .i64 n, .bool g]] w (GivesInts2 (jn n g (pkb s)) 0 w) := by
  obtain ⟨i0, hi, hz0, hz1, hz2⟩ := info_parts info_u8
  have hs' : ¬ 255 < s.size := by omega
  go_enter Try.func31, Try.ntmps31
  go_wp2_with (first | (go_at_call 17; refine (Valid_yes _ _ hb _).mono ?_; rintro e w1 ⟨rfl, hb1⟩; have hf0 : w1.cell? ⟨w.heap.size, 0, none⟩ = some (.int .i64 n) := (hb1.cell (p := ⟨w.heap.size, 0, none⟩) (by simp)).trans ((World.cell?_alloc_at _ _ _ _ rfl).trans rfl); have hf1 : w1.cell? ⟨w.heap.size, 1, none⟩ = some (.bool g) := (hb1.cell (p := ⟨w.heap.size, 1, none⟩) (by simp)).trans ((World.cell?_alloc_at _ _ _ _ rfl).trans rfl)))
  have hsz : w.heap.size < w1.heap.size := by have := hb1.size; simp at this; omega
  have hown1 := World.ownsRow_lit (base := w1.heap.size) (e := 5) (size := 1) w1 #[.int .u8 s.size] 1 (Nat.le_refl _) (by unfold maxLen; omega) rfl
  go_region_held3 (fun w' => w'.cell? ⟨w.heap.size, 0, none⟩ = some (.int .i64 n) ∧ w'.cell? ⟨w.heap.size, 1, none⟩ = some (.bool g))
    (first | (go_split_ands; refine ⟨?_, ?_⟩; all_goals (refine (hb3.cell (World.block_lt_of_cell? _ _ (by assumption))).trans (by assumption))) | go_keep | (go_split_ands; refine ⟨?_, ?_⟩; all_goals (first | exact hgrow.cell (by assumption) (by simp [Value.ownBlock]; omega) | assumption)))
    ((first
      | (refine step_append_string (by rfl) _ _ _ _ (by rfl) w1.heap.size 5 i0 Try.underlying46 Try.underlying9 hi hz0 hz1 hz2 _ 1 _ (by rfl) ((World.ownsRow_lit w1 _ 1 (Nat.le_refl _) (by unfold maxLen; omega) rfl).drew) s (by rfl) (by unfold maxLen; omega) (by omega) (by simp) ?_; intro v2 w2 hown2 hgrow)
      | (go_at_call 65; refine (join_c _ (pkb s) n g hb (pkb_len s hs) (pkb_bd s hs) _ (pk_rd hs hown2)).mono ?_; rintro e w3 ⟨v3, rfl, hr3, hb3⟩)))
  go_wp2
  go_ret2
  have h2 : Below w.heap.size w w2 := ((((below_alloc w _).trans (hb1.mono (by simp))).alloc (by omega) _).drew).grown hgrow (by simp; omega) (by simp [Value.ownBlock]; omega)
  exact ⟨_, rfl, hr3, below_then h2 hb3⟩

theorem rd_one (w : World) (v : Int) (t : TypeId) : Rd .i64 (w.alloc (.cells #[.int .i64 v] t)) (.slice (some ⟨w.heap.size, 0, none⟩) 1 1) [v] :=
  Rd.of_owns (World.ownsRow_lit (base := 0) (e := t) (size := 1) w #[.int .i64 v] 1 (Nat.zero_le _) (by unfold maxLen; omega) rfl) (by simp)
theorem aw1 : apw 4 32767 1 16 = -32768 := by decide
theorem aw2 : jn 16 true (pkb ⟨#[65]⟩) = [321] := by decide
theorem Apply_aw (w : World) :
    Calls Try.prog 20 #[.int .i64 4, .int .i64 32767, .int .i64 1, .int .i64 16] w fun e w' => e = .returned (.tuple #[.int .i64 (-32768), .int .i64 0]) ∧ Below w.heap.size w w' := by
  have h := Apply_ok 4 32767 1 16 ⟨by decide, by omega, by omega, fun h => by omega⟩ w
  rw [aw1] at h; exact h
theorem Pack_aw (w : World) :
    Calls Try.prog 31 #[.string ⟨#[65]⟩, .agg #[.int .i64 16, .bool true]] w (GivesInts2 [321] 0 w) := by
  have h := Pack_ok ⟨#[65]⟩ 16 true (by decide) (by decide) w
  rw [aw2] at h; exact h
set_option maxHeartbeats 400000 in
theorem awake_c (w : World) :
    Calls Try.prog 19 #[] w fun e w' => e = .returned (.bool true) ∧ Below w.heap.size w w' := by
  go_enter Try.func19, Try.ntmps19
  go_wp2_with (first | (go_at_call 20; refine (Apply_aw _).mono ?_; rintro e w1 ⟨rfl, hb1⟩) | (go_at_call 31; refine (Pack_aw _).mono ?_; rintro e w2 ⟨v2, rfl, hr2, hb2⟩))
  refine (EqInts_c _ _ [321] [321] _ (hr2.keep (below_alloc _ _)) (rd_one _ 321 3)).mono ?_
  rintro e w3 ⟨rfl, hb3⟩
  go_wp2
  go_ret
  exact ⟨rfl, below_then hb1 (below_then hb2 (below_then (below_alloc _ _) hb3))⟩
end Go.Proofs.Ytmhifelkihcidaa
