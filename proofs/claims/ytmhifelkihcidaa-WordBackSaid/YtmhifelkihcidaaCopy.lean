/- A copy of a list of integers, and a list of integers put behind one, each by its contract. -/
import Derived.Test.YtmhifelkihcidaaWSame
import Derived.Test.YtmhifelkihcidaaWBack
import Derived.Laws.OwnMore
namespace Go.Proofs.Ytmhifelkihcidaa
open Go.RowKit WM
set_option linter.unusedVariables false

theorem grown_refl (w : World) (row : Option Nat) : w.grownBy w row := ⟨rfl, rfl, rfl, Nat.le_refl _, fun _ _ _ => rfl⟩
/-- where the elements of a slice lie that came in: nowhere, or from an address on -/
def Src (k : IntKind) (w : World) (ad : Option Addr) (m c : Nat) (xs : List Int) : Prop := (ad = none ∧ m = 0 ∧ c = 0) ∨ ∃ p, ad = some p ∧ ∀ j, j < m → w.cell? (p.add j) = some (.int k (xs.getD j 0))
theorem Src.keep {k : IntKind} {w w' : World} {ad : Option Addr} {m c : Nat} {xs : List Int} (h : Src k w ad m c xs) (hb : Below w.heap.size w w') : Src k w' ad m c xs := by
  rcases h with h | ⟨p, h1, h2⟩
  · exact .inl h
  · exact .inr ⟨p, h1, fun j hj => (hb.cell (World.block_lt_of_cell? _ _ (h2 j hj))).trans (h2 j hj)⟩
theorem Src.drew {k : IntKind} {w : World} {ad : Option Addr} {m c : Nat} {xs : List Int} (h : Src k w ad m c xs) : Src k w.drew ad m c xs := h
theorem src_nth {k : IntKind} {w : World} {p : Addr} {xs : List Int} (hc : ∀ j, j < xs.length → w.cell? (p.add j) = some (.int k (xs.getD j 0))) : ∀ j u, (xs.map (Value.int k))[j]? = some u → w.cell? (p.add j) = some u := by
  intro j v hv
  rw [List.getElem?_map] at hv
  by_cases hj : j < xs.length
  · rw [List.getElem?_eq_getElem hj] at hv
    simp at hv
    have := hc j hj
    rw [List.getD_eq_getElem?_getD, List.getElem?_eq_getElem hj, Option.getD_some, hv] at this
    exact this
  · rw [List.getElem?_eq_none (by omega)] at hv; simp at hv
theorem rd_some {k : IntKind} {w : World} {v : Value} {xs : List Int} (h : Rd k w v xs) (hp : 0 < xs.length) : ∃ b off cap, v = .slice (some ⟨b, off, none⟩) xs.length cap ∧ (∀ i, i < xs.length → w.cell? ⟨b, off + i, none⟩ = some (.int k (xs.getD i 0))) ∧ b < w.heap.size := by
  obtain ⟨a, cap, rfl, hl, h0 | ⟨b, off, rfl, hc⟩⟩ := h
  · rw [h0] at hp; simp at hp
  · exact ⟨b, off, cap, rfl, hc, World.block_lt_of_cell? w _ (hc 0 hp)⟩
theorem step_append_ints {P : Program} {w : World} {ops : Array Oper} {o : Oper} {a : Act} {K : Act → World → Prop} {Q : Exit → Act → World → Prop} {E : Prop} (hgd : o.guard = none) (s x : Operand) (t : TypeId)
    (ho : o.op = .call { callee := .builtin .append, args := #[s, x], argTypes := #[t, t] })
    (base : Nat) (e : TypeId) (i : TypeInfo) (k : IntKind) (bytes : Nat) (ht : P.underlying t = some (.slice e)) (hI : P.info? e = some i ∧ i.zero = some (.int k 0) ∧ i.size = 1 ∧ i.bytes = bytes) (hby : bytes ≤ 8)
    (v : Value) (n : Nat) (ys : List Int) (hs : a.eval s = v) (hown : w.ownsRow base e 1 v n (ys.map (.int k))) (ad : Option Addr) (m c : Nat) (xs : List Int) (hx : a.eval x = .slice ad m c) (hm : xs.length = m)
    (hc : Src k w ad m c xs)
    (hn : n + m ≤ 4294967296) (hbase : base ≤ w.heap.size)
    (h : ∀ v' w', w'.ownsRow base e 1 v' (n + m) ((ys ++ xs).map (.int k)) → w.grownBy w' v.ownBlock → K (a.put o.dst v') w') :
    if Region.wanted o (yielded ops a.tmps) = true then Oper.wp P o a w K Q else E := by
  have hw : Region.wanted o (yielded ops a.tmps) = true := by simp [Region.wanted, hgd]
  rw [if_pos hw]
  obtain ⟨h1, h2, h3, h4⟩ := hI
  rcases hc with ⟨rfl, rfl, rfl⟩ | ⟨p, rfl, hc⟩
  · have hx0 : xs = [] := List.length_eq_zero_iff.1 hm
    subst hx0
    have hrun := run_append_owned_none (P := P) (w := w) base t o.type e i 1 ht h1 v n _ hown
    unfold Oper.wp
    simp [execOp, ho, resolve, invoke, builtin, hs, hx, hrun, Result.andThen]
    exact h v w (by simpa using hown) (grown_refl w _)
  · have hbb : (n + m) * bytes ≤ 4294967296 * 8 := Nat.mul_le_mul hn hby
    refine wp_append_own w s x t ho base e i (.int k 0) 1 bytes ht h1 h2 h3 h4 rfl (by decide) v n _ hs hown p m c (xs.map (.int k)) hx (by simp [hm]) ?_ (ints_oneCell _ _) (by unfold maxLen; omega) (by omega) hbase ?_
    · exact src_nth (fun j hj => hc j (by omega))
    · intro v' w' hown' hgr _
      exact h v' w' (by rw [List.map_append]; exact hown') hgr
/-- the call returns a list of integers that is its own, in new memory -/
def GivesOwn (ys : List Int) (w : World) (e : Ending) (w' : World) : Prop := ∃ v, e = .returned v ∧ w'.ownsRow w.heap.size 3 1 v ys.length (ys.map (.int .i64)) ∧ Below w.heap.size w w'
set_option maxHeartbeats 400000 in
theorem CopyInts_c (b off cap : Nat) (ys : List Int) (hl : ys.length ≤ 1000000) (w : World) (hc : ∀ i, i < ys.length → w.cell? ⟨b, off + i, none⟩ = some (.int .i64 (ys.getD i 0))) (hb : b < w.heap.size) :
    Calls Try.prog 43 #[.slice (some ⟨b, off, none⟩) ys.length cap] w (GivesOwn ys w) := by
  obtain ⟨i0, hii, hz0, hz1, hz2⟩ := info_parts info_int
  have hown1 := World.ownsRow_lit (base := w.heap.size) (e := 3) (size := 1) w #[] 0 (Nat.le_refl _) (by unfold maxLen; omega) rfl
  have HC : Hid (∀ i, i < ys.length → w.cell? ⟨b, off + i, none⟩ = some (.int .i64 (ys.getD i 0))) := hc
  clear hc
  go_enter Try.func43, Try.ntmps43
  have HN := Lib.hid (cells_nth (fun j hj => ((below_alloc w (.cells #[] 3)).cell (p := ⟨b, off + j, none⟩) hb).trans (HC.out j hj)))
  have HM : Hid (0 + ys.length ≤ maxLen) := by show 0 + ys.length ≤ maxLen; unfold maxLen; omega
  have H8 : Hid ((0 + ys.length) * 8 ≤ 140737488355328) := by show (0 + ys.length) * 8 ≤ 140737488355328; omega
  have HL : Hid ((ys.map (Value.int .i64)).length = ys.length * 1) := by show (ys.map (Value.int .i64)).length = ys.length * 1; simp
  go_wp2_with (at_builtin; refine wpList_append_own _ rfl (.tmp 3) (.tmp 4) 37 rfl w.heap.size 3 i0 (.int .i64 0) 1 8 Try.underlying37 hii hz0 hz1 hz2 rfl (by decide) _ 0 _ rfl hown1 ⟨b, off, none⟩ ys.length cap (ys.map (.int .i64)) rfl HL.out HN.out (ints_oneCell _ _) HM.out H8.out (by simp) ?_)
  · intro v' w' hown' hgr _
    go_wp2
    go_ret
    refine ⟨_, rfl, by simpa using hown', ?_⟩
    exact (below_alloc w _).grown hgr (by simp) (fun kk e => (hown1.lt kk e).1)
theorem str_bytes (s : ByteArray) : strOfNums (sbytes s) = s := by
  have e : ((sbytes s).map fun n => UInt8.ofNat n.toNat) = s.data.toList := by
    unfold sbytes
    rw [List.map_map]
    have : ((fun n : Int => UInt8.ofNat n.toNat) ∘ fun b : UInt8 => (b.toNat : Int)) = id := by
      funext b; simp
    rw [this, List.map_id]
  unfold strOfNums
  rw [e]
/-- what Unpack finds in a packed string with any words behind -/
theorem unpack_packed {n : Int} (hb : IsBits n) (g : Bool) (s : ByteArray) (hs : s.size ≤ 255) (xs : List Int) :
    gb n g (jn n g (pkb s) ++ xs) 0 = (s.size : Int) ∧ byt n g (jn n g (pkb s) ++ xs) 1 s.size = sbytes s ∧ s.size < (jn n g (pkb s)).length * nb n ∧ (jn n g (pkb s)).length ≤ s.size / 2 + 1 ∧ 0 < (jn n g (pkb s)).length := by
  have hpl : (pkb s).length = s.size + 1 := by simp [pkb, sbytes_len]
  obtain ⟨q, Z, hq, hZ, hqd, _⟩ := pad_up hb (s.size + 1)
  have hj : jn n g (pkb s) = jwl n g (pkb s) q := jn_jwl hb g (pkb s) (pkb_bd s hs) q (by rw [hpl]; exact hqd)
  have hnb := nb_bd hb
  rw [hj]
  have hg : ∀ k, k < q * nb n → gb n g (jwl n g (pkb s) q ++ xs) k = (pkb s).getD k 0 := fun k hk => gb_joined hb g (pkb s) xs (pkb_bd s hs) q k hk
  refine ⟨hg 0 (by omega), ?_, by rw [jwl_length]; omega, ?_, ?_⟩
  · apply List.ext_getElem
    · rw [byt_length, sbytes_len]
    · intro i h1 h2
      rw [byt_length] at h1
      simp only [byt, List.getElem_map, List.getElem_range]
      rw [hg (i + 1) (by omega)]
      show ((s.size : Int) :: sbytes s).getD (i + 1) 0 = _
      rw [List.getD_eq_getElem?_getD, List.getElem?_cons_succ, List.getElem?_eq_getElem h2, Option.getD_some]
  · rw [jwl_length]
    rcases hb with rfl | rfl | rfl
    · have e : (s.size + 1 + 2 - 1) / 2 = q := hqd
      omega
    · have e : (s.size + 1 + 3 - 1) / 3 = q := hqd
      omega
    · have e : (s.size + 1 + 4 - 1) / 4 = q := hqd
      omega
  · rw [jwl_length]
    rcases Nat.eq_zero_or_pos q with h | h
    · rw [h] at hq; omega
    · exact h
end Go.Proofs.Ytmhifelkihcidaa
