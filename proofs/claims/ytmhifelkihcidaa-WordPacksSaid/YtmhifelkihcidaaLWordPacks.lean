/- The statement WordPacks holds: the law returns true for all its arguments, and they read behind the call as before; no condition. -/
import Derived.Test.YtmhifelkihcidaaWSame
import Derived.Test.YtmhifelkihcidaaPk
import Derived.Test.YtmhifelkihcidaaFrame
namespace Go.Proofs.Ytmhifelkihcidaa.wordPacks
open Go.ChangeShapes Go.WideShapes Go.ChangeAt Go.RowKit Go.Joins WM
open Go.ChangeMaps (open_string shut_string)
set_option linter.unusedVariables false
set_option maxHeartbeats 1600000 in
theorem walk (s0 : ByteArray) (a1 : Option Addr) (len1 cap1 : Nat) (z1 : List Int) (n2 : Int) (g2 : Bool) (w : World) (w0 : s0.size ≤ maxLen) (w1 : IsRow .i64 w a1 len1 cap1 z1) (w2 : (Lit.int .i64 n2).wf = true) :
    Calls Try.prog 8 #[.string s0, .slice a1 len1 cap1, .agg #[.int .i64 n2, .bool g2]] w fun e w' => e = .returned (.bool true) ∧ Below w.heap.size w w' := by
  by_cases h600 : 600 < s0.size
  · go_enter Try.func8, Try.ntmps8
    go_wp2
    go_ret
    exact ⟨rfl, below_alloc _ _⟩
  have h600' : ¬ (600 : Int) < (s0.size : Int) := by omega
  by_cases h300 : 300 < len1
  · go_enter Try.func8, Try.ntmps8
    go_wp2
    go_ret
    exact ⟨rfl, below_alloc _ _⟩
  have h300' : ¬ (300 : Int) < (len1 : Int) := by omega
  have hrd := w1.rd (by omega)
  have hl := w1.len
  clear w0 w1 w2
  generalize hxs : z1.take len1 = xs at *
  clear hxs
  obtain ⟨py, pe, hp⟩ := Pack_same s0 n2 g2
  obtain ⟨us, ue, hu⟩ := Unpack_same xs (by omega) n2 g2
  obtain ⟨yy, ye, hy⟩ := Bytes_same xs (by omega) n2 g2
  obtain ⟨wy, we, hw⟩ := Words_same (sbytes s0) (by rw [sbytes_len]; omega) (sbytes_bd s0) n2 g2
  have HP := Lib.hid hp
  have HU := Lib.hid hu
  have HB := Lib.hid hy
  have HW := Lib.hid hw
  have HRD := Lib.hid hrd
  have HS : Hid (s0.size ≤ 1000) := by show s0.size ≤ 1000; omega
  have hconv := conv_str s0
  have hfl0 : (w.alloc (.cells #[.int .i64 n2, .bool g2] 27)).cell? ⟨w.heap.size, 0, none⟩ = some (.int .i64 n2) := (World.cell?_alloc_at _ _ _ _ rfl).trans rfl
  have hfl1 : (w.alloc (.cells #[.int .i64 n2, .bool g2] 27)).cell? ⟨w.heap.size, 1, none⟩ = some (.bool g2) := (World.cell?_alloc_at _ _ _ _ rfl).trans rfl
  clear hp hu hy hw hrd hl h600 h300
  go_enter Try.func8, Try.ntmps8
  go_wp2_with (first | (go_at_call 31; refine ((HP.out _).1).mono ?_; rintro e W1 ⟨v1, rfl, hr1, hb1⟩; have hfa := (hb1.cell (p := ⟨w.heap.size, 0, none⟩) (World.block_lt_of_cell? _ _ (by assumption))).trans (by assumption); have hfb := (hb1.cell (p := ⟨w.heap.size, 1, none⟩) (World.block_lt_of_cell? _ _ (by assumption))).trans (by assumption)) | (go_at_call 32; refine ((HP.out _).2).mono ?_; rintro e W2 ⟨v2, rfl, hr2, hb2⟩; have hfa := (hb2.cell (p := ⟨w.heap.size, 0, none⟩) (World.block_lt_of_cell? _ _ (by assumption))).trans (by assumption); have hfb := (hb2.cell (p := ⟨w.heap.size, 1, none⟩) (World.block_lt_of_cell? _ _ (by assumption))).trans (by assumption)) | (go_at_call 30; refine (EqInts_c _ _ wy wy _ (hr9.keep (below_then (below_bytes W9 s0) hb10)) hr10).mono ?_; rintro e W11 ⟨rfl, hb11⟩; have hfa := (hb11.cell (p := ⟨w.heap.size, 0, none⟩) (World.block_lt_of_cell? _ _ (by assumption))).trans (by assumption); have hfb := (hb11.cell (p := ⟨w.heap.size, 1, none⟩) (World.block_lt_of_cell? _ _ (by assumption))).trans (by assumption)) | (go_at_call 30; refine (EqInts_c _ _ py py _ (hr1.keep hb2) hr2).mono ?_; rintro e W3 ⟨rfl, hb3⟩; have hfa := (hb3.cell (p := ⟨w.heap.size, 0, none⟩) (World.block_lt_of_cell? _ _ (by assumption))).trans (by assumption); have hfb := (hb3.cell (p := ⟨w.heap.size, 1, none⟩) (World.block_lt_of_cell? _ _ (by assumption))).trans (by assumption); have hrd3 := HRD.out.keep (below_then (below_then (below_then (below_alloc w _) hb1) hb2) hb3)) | (go_at_call 33; refine ((HU.out _ _ hrd3).1).mono ?_; rintro e W4 ⟨rfl, hb4⟩; have hfa := (hb4.cell (p := ⟨w.heap.size, 0, none⟩) (World.block_lt_of_cell? _ _ (by assumption))).trans (by assumption); have hfb := (hb4.cell (p := ⟨w.heap.size, 1, none⟩) (World.block_lt_of_cell? _ _ (by assumption))).trans (by assumption); have hrd4 := hrd3.keep hb4) | (go_at_call 34; refine ((HU.out _ _ hrd4).2).mono ?_; rintro e W5 ⟨rfl, hb5⟩; have hfa := (hb5.cell (p := ⟨w.heap.size, 0, none⟩) (World.block_lt_of_cell? _ _ (by assumption))).trans (by assumption); have hfb := (hb5.cell (p := ⟨w.heap.size, 1, none⟩) (World.block_lt_of_cell? _ _ (by assumption))).trans (by assumption); have hrd5 := hrd4.keep hb5) | (go_at_call 35; refine ((HB.out _ _ hrd5).1).mono ?_; rintro e W6 ⟨v6, rfl, hr6, hb6⟩; have hfa := (hb6.cell (p := ⟨w.heap.size, 0, none⟩) (World.block_lt_of_cell? _ _ (by assumption))).trans (by assumption); have hfb := (hb6.cell (p := ⟨w.heap.size, 1, none⟩) (World.block_lt_of_cell? _ _ (by assumption))).trans (by assumption); have hrd6 := hrd5.keep hb6) | (go_at_call 36; refine ((HB.out _ _ hrd6).2).mono ?_; rintro e W7 ⟨v7, rfl, hr7, hb7⟩; have hfa := (hb7.cell (p := ⟨w.heap.size, 0, none⟩) (World.block_lt_of_cell? _ _ (by assumption))).trans (by assumption); have hfb := (hb7.cell (p := ⟨w.heap.size, 1, none⟩) (World.block_lt_of_cell? _ _ (by assumption))).trans (by assumption)) | (go_at_call 37; refine (EqBytes_c _ _ yy yy _ (hr6.keep hb7) hr7).mono ?_; rintro e W8 ⟨rfl, hb8⟩; have hfa := (hb8.cell (p := ⟨w.heap.size, 0, none⟩) (World.block_lt_of_cell? _ _ (by assumption))).trans (by assumption); have hfb := (hb8.cell (p := ⟨w.heap.size, 1, none⟩) (World.block_lt_of_cell? _ _ (by assumption))).trans (by assumption); have hB8 := below_bytes W8 s0; have hfc := (hB8.cell (p := ⟨w.heap.size, 0, none⟩) (World.block_lt_of_cell? _ _ (by assumption))).trans (by assumption); have hfd := (hB8.cell (p := ⟨w.heap.size, 1, none⟩) (World.block_lt_of_cell? _ _ (by assumption))).trans (by assumption)) | (go_at_call 38; refine ((HW.out _ _ (rd_bytes W8 s0 _ HS.out)).1).mono ?_; rintro e W9 ⟨v9, rfl, hr9, hb9⟩; have hfa := (hb9.cell (p := ⟨w.heap.size, 0, none⟩) (World.block_lt_of_cell? _ _ (by assumption))).trans (by assumption); have hfb := (hb9.cell (p := ⟨w.heap.size, 1, none⟩) (World.block_lt_of_cell? _ _ (by assumption))).trans (by assumption); have hB9 := below_bytes W9 s0; have hfc := (hB9.cell (p := ⟨w.heap.size, 0, none⟩) (World.block_lt_of_cell? _ _ (by assumption))).trans (by assumption); have hfd := (hB9.cell (p := ⟨w.heap.size, 1, none⟩) (World.block_lt_of_cell? _ _ (by assumption))).trans (by assumption)) | (go_at_call 39; refine ((HW.out _ _ (rd_bytes W9 s0 _ HS.out)).2).mono ?_; rintro e W10 ⟨v10, rfl, hr10, hb10⟩; have hfa := (hb10.cell (p := ⟨w.heap.size, 0, none⟩) (World.block_lt_of_cell? _ _ (by assumption))).trans (by assumption); have hfb := (hb10.cell (p := ⟨w.heap.size, 1, none⟩) (World.block_lt_of_cell? _ _ (by assumption))).trans (by assumption)) | (go_at_call 19; refine (awake_c _).mono ?_; rintro e wa ⟨rfl, hba⟩))
  go_ret
  exact ⟨rfl, (by repeat (first | exact Below.refl _ _ | exact below_alloc _ _ | refine below_back (below_bytes _ _) ?_ | refine below_back (by assumption) ?_ | refine Below.drew ?_ | refine below_drewN ?_ _ | refine Below.alloc ?_ (by first | exact Nat.le_refl _ | (simp; done) | (simp; omega)) _))⟩

set_option maxRecDepth 100000 in
theorem lifted (os : Os) (started : os.Started) (H : Type) (enc : TypeId × Value → H) :
    ReturnsInHanded {} Try.checked os 8 .any (Rows.wordPacksSpec.pre6 enc Try.prog Try.f8 Rows.wordPacksRow.domain false) (Rows.wordPacksSpec.post enc Try.prog Try.f8 false true false false) := by
  refine returnsInHanded_of_change (C := Try.checked) own started (by kernel_rfl) Try.func8
    (ChangeSpec.witness6 (enc := enc) (C := Try.checked) false ⟨#[], #[.string ⟨#[]⟩, .slice none 0 0, .agg #[.int .i64 0, .bool false]], []⟩ 8 (by kernel_rfl) (by kernel_rfl) (by kernel_rfl) (by kernel_rfl)) ?_
  intro W base args ds gs before hval0 hW hcnd _
  have hval : ∀ (j : Nat) t v, Try.f8.params[j]? = some t → args[j]? = some v → Value.okWide Try.prog W .any base t v := hval0
  have hW' := hW
  obtain ⟨p, q, hA0, hV, rfl, hfz, hnd⟩ := hW
  have hA : DataW.TrodAll enc Try.prog W 0 (fun _ => true) true Try.f8.params.toList args.toList ds p := hA0
  rw [Try.params8] at hA hval
  obtain ⟨v0, vs0, d0, ds0, p0, q0, hargs, rfl, rfl, h0, r0⟩ := trodAll_cons hA
  obtain ⟨v1, vs1, d1, ds1, p1, q1, rfl, rfl, rfl, h1, r1⟩ := trodAll_cons r0
  obtain ⟨v2, vs2, d2, ds2, p2, q2, rfl, rfl, rfl, h2, r2⟩ := trodAll_cons r1
  obtain ⟨rfl, rfl, rfl⟩ := trodAll_nil r2
  obtain rfl : args = #[v0, v1, v2] := by cases args; simp_all
  obtain ⟨rfl, rfl⟩ := trodVars_none hV
  have k0 := h0
  have lt0 : ∀ x ∈ p0, x.block < W.heap.size := by obtain ⟨m, hm⟩ := k0; exact DataW.trod_lt m _ _ _ hm
  have k1 := h1
  have lt1 : ∀ x ∈ p1, x.block < W.heap.size := by obtain ⟨m, hm⟩ := k1; exact DataW.trod_lt m _ _ _ hm
  have k2 := h2
  have lt2 : ∀ x ∈ p2, x.block < W.heap.size := by obtain ⟨m, hm⟩ := k2; exact DataW.trod_lt m _ _ _ hm
  obtain ⟨s0, rfl, rfl, rfl, w0⟩ := open_string Try.underlying9 (hval 0 9 v0 rfl rfl) h0
  obtain ⟨a1, len1, cap1, rfl⟩ := okWide_slice Try.underlying37 (hval 1 37 v1 rfl rfl)
  obtain ⟨z1, w1⟩ : ∃ zs, IsRow .i64 W a1 len1 cap1 zs := isRow_of_trod Try.underlying37 Try.underlying3 (by kernel_rfl) h1
  obtain ⟨c2a, c2b, y2a, y2b, m2, rfl, rfl, rfl, hy2a, hy2b⟩ := open_agg2 Try.underlying27 (by kernel_rfl) (by kernel_rfl) (hval 2 27 v2 rfl rfl) h2
  obtain ⟨n2, e2a, rfl, w2⟩ := DataW.trod_int Try.underlying3 hy2a
  obtain ⟨g2, e2b, rfl⟩ := DataW.trod_bool Try.underlying4 hy2b
  simp at e2a e2b
  subst e2a e2b
  clear hA0 hval0
  refine (walk s0 a1 len1 cap1 z1 n2 g2 W w0 w1 w2).mono fun e W' ⟨he, bel⟩ => ?_
  subst he
  exact ⟨_, rfl, _, _, _, [], _, [], hW', trodAll_mk1 (shut_bool Try.underlying4 _), (trodAll_cons_mk (Below.trod laidOut (by kernel_rfl) (of_decide_eq_true (by kernel_rfl)) k0 bel lt0) (trodAll_cons_mk (Below.trod laidOut (by kernel_rfl) (of_decide_eq_true (by kernel_rfl)) k1 bel lt1) (trodAll_cons_mk (Below.trod laidOut (by kernel_rfl) (of_decide_eq_true (by kernel_rfl)) k2 bel lt2) trodAll_mk0))), rfl, bel.frame _, fun h => by cases h⟩

theorem over : Rows.wordPacksRow.holds Try.pinned (OpenSpec.ofChange Rows.wordPacksSpec) :=
  OpenClaim.holds_of_wide 8 Try.f8 rfl rfl rfl rfl rfl rfl rfl ⟨rfl, rfl, rfl, rfl, rfl⟩ rfl rfl rfl rfl rfl (by kernel_rfl) Try.func8 (by kernel_rfl)
    (of_decide_eq_true (by kernel_rfl)) (by unfold Func.isWrapper; first | (rw [if_pos (by decide +kernel)]; kernel_rfl) | (rw [if_neg (by decide +kernel)]; exact ⟨rfl, rfl⟩))
    (fun os started H enc _ => lifted os started H enc)

end Go.Proofs.Ytmhifelkihcidaa.wordPacks
namespace Go.Proofs.Ytmhifelkihcidaa
theorem wordPacks_holds : Rows.WordPacksSaid := wordPacks.over
end Go.Proofs.Ytmhifelkihcidaa
