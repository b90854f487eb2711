/- Plain mathematics of tokens: what is skipped, what a token is, and all tokens of a source. No program is named here. -/
namespace Go.Proofs.YtfnkafnjpldaoaaDoor.LX
set_option linter.unusedVariables false

abbrev Bs := List UInt8
def small (c : UInt8) : Bool := decide (97 ≤ c.toNat) && decide (c.toNat ≤ 122)
def isDig (c : UInt8) : Bool := decide (48 ≤ c.toNat) && decide (c.toNat ≤ 57)
def part (c : UInt8) : Bool := small c || isDig c || decide (c.toNat = 95)
def nib (c : UInt8) : Nat := if isDig c then c.toNat - 48 else if 97 ≤ c.toNat ∧ c.toNat ≤ 102 then c.toNat - 87 else if 65 ≤ c.toNat ∧ c.toNat ≤ 70 then c.toNat - 55 else 16
def plain (c : UInt8) : Bool := decide (32 ≤ c.toNat) && decide (c.toNat ≤ 126)
def esc (c : UInt8) : Option UInt8 :=
  if c.toNat = 110 then some 10 else if c.toNat = 116 then some 9 else if c.toNat = 115 then some 32 else if c.toNat = 42 ∨ c.toNat = 39 ∨ c.toNat = 34 then some c else none
/-- how many bytes are blanks and comments ahead; st: within a comment -/
def skipG : Bool → Bs → Nat
  | _, [] => 0
  | true, c :: l => if c.toNat = 10 then skipG false l + 1 else skipG true l + 1
  | false, c :: l => if c.toNat = 32 ∨ c.toNat = 9 ∨ c.toNat = 10 then skipG false l + 1 else if c.toNat = 47 ∧ l.head? = some 47 then skipG true l + 1 else 0
/-- a byte or an escape ahead of the mark q: what it stands for, and how long it is -/
def letter (q : UInt8) : Bs → Option (UInt8 × Nat)
  | [] => none
  | c :: l => if c.toNat = 42 then (match l with | [] => none | d :: _ => (esc d).map (fun x => (x, 2))) else if plain c ∧ c ≠ q then some (c, 1) else none
/-- the rest of a string: what it stands for, and its length with the mark at its end; st: behind a star -/
def strG : Bool → Bs → Option (Bs × Nat)
  | _, [] => none
  | true, c :: l => match esc c with | none => none | some d => (strG false l).map (fun x => (d :: x.1, x.2 + 1))
  | false, c :: l => if c.toNat = 34 then some ([], 1) else if c.toNat = 42 then (strG true l).map (fun x => (x.1, x.2 + 1)) else if plain c then (strG false l).map (fun x => (c :: x.1, x.2 + 1)) else none
/-- the value of digits -/
def val (base : Nat) (l : Bs) : Nat := l.foldl (fun n c => n * base + nib c) 0
def w32 (n : Nat) : Int := if 2147483648 ≤ n then (n : Int) - 4294967296 else n
def keyL : List Bs :=
  [[97,110,100],[98,101],[98,114,101,97,107],[98,121],[99,97,115,101],[100,101,102,97,117,108,116],[100,111],[101,108,115,101],[101,110,100,99,97,115,101],[101,113,118],[102,97,108,115,101],
   [102,105,110,105,115,104],[102,111,114],[103,108,111,98,97,108],[103,111,116,111],[105,102],[105,110,116,111],[108,101,116],[108,111,111,112],[109,97,110,105,102,101,115,116],[111,102],[111,114],
   [114,101,109],[114,101,112,101,97,116],[114,101,112,101,97,116,117,110,116,105,108],[114,101,112,101,97,116,119,104,105,108,101],[114,101,115,117,108,116,105,115],[114,101,116,117,114,110],[115,101,99,116,105,111,110],[115,108,99,116],
   [115,116,97,116,105,99],[115,119,105,116,99,104,111,110],[116,97,98,108,101],[116,101,115,116],[116,104,101,110],[116,111],[116,114,117,101],[117,110,108,101,115,115],[117,110,116,105,108],[118,97,108,111,102],
   [118,101,99],[119,104,105,108,101],[120,111,114]]
def signL : List Bs :=
  [[40],[41],[123],[125],[44],[59],[58],[33],[37],[64],[43],[45],[42],[47],[38],[124],[126],[63],
   [61],[126,61],[60],[60,61],[62],[62,61],[60,60],[62,62],[58,61],[45,62]]
inductive Res where
  | bad (e : Nat)
  | good (k : Nat) (s : Bs) (n : Int) (len : Nat)
deriving DecidableEq
def wordR (l : Bs) : Res :=
  if (l.takeWhile part).length > 24 then .bad 2 else if l.takeWhile part ∈ keyL then .good 4 (l.takeWhile part) 0 (l.takeWhile part).length else .good 1 (l.takeWhile part) 0 (l.takeWhile part).length
/-- the digits ahead -/
def digs (base : Nat) (l : Bs) : Bs := l.takeWhile (fun c => decide (nib c < base))
/-- a number whose digits begin behind so many bytes -/
def numR (base most pre : Nat) (l : Bs) : Res :=
  if val base (digs base l) > most then .bad 22 else .good 2 [] (w32 (val base (digs base l))) (pre + (digs base l).length)
def hexR (r : Bs) : Res :=
  match r with
  | [] => .bad 20
  | d :: _ => if nib d < 16 then numR 16 4294967295 1 r else .bad 20
def charR (r : Bs) : Res :=
  match letter 39 r with
  | none => .bad 21
  | some (d, n) => if (r.drop n).head? = some 39 then .good 2 [] d.toNat (n + 2) else .bad 21
def textR (r : Bs) : Res :=
  match strG false r with
  | none => .bad 21
  | some (s, n) => if s.length > 100 then .bad 2 else .good 3 s 0 (n + 1)
def signR (l : Bs) : Res :=
  if l.take 2 ∈ signL then .good 5 (l.take 2) 0 (l.take 2).length else if l.take 1 ∈ signL then .good 5 (l.take 1) 0 1 else .bad 20
/-- the token ahead -/
def tok (c : UInt8) (r : Bs) : Res :=
  if small c then wordR (c :: r) else if isDig c then numR 10 2147483647 0 (c :: r) else if c.toNat = 35 then hexR r
  else if c.toNat = 39 then charR r else if c.toNat = 34 then textR r else signR (c :: r)
structure Tok where
  kind : Nat
  s : Bs
  n : Int
  pos : Nat
deriving DecidableEq
/-- all tokens up to the first error, and this error with its place -/
def rawF : Nat → Nat → Bs → List Tok × Option (Nat × Nat)
  | 0, _, _ => ([], none)
  | f + 1, at_, l =>
    match l.drop (skipG false l) with
    | [] => ([], none)
    | c :: r =>
      match tok c r with
      | .bad e => ([], some (e, at_ + skipG false l))
      | .good k s n len => (⟨k, s, n, at_ + skipG false l⟩ :: (rawF f (at_ + skipG false l + len) ((c :: r).drop len)).1, (rawF f (at_ + skipG false l + len) ((c :: r).drop len)).2)
def raw (at_ : Nat) (l : Bs) : List Tok × Option (Nat × Nat) := rawF (l.length + 1) at_ l
inductive Scanned where
  | bad (e : Nat) (pos : Nat)
  | good (l : List Tok)
deriving DecidableEq
/-- the tokens of a source, or its first error with its place -/
def scan (l : Bs) : Scanned :=
  if l.length > 40000 then .bad 2 0
  else if h : 20000 < (raw 0 l).1.length then .bad 2 ((raw 0 l).1[20000]).pos
  else match (raw 0 l).2 with
    | some (e, p) => .bad e p
    | none => if (raw 0 l).1.length = 20000 then .bad 2 l.length else .good ((raw 0 l).1 ++ [⟨0, [], 0, l.length⟩])

/-! a token has a byte at least -/
theorem takeWhile_pos {p : UInt8 → Bool} {c : UInt8} {r : Bs} (h : p c = true) : 1 ≤ ((c :: r).takeWhile p).length := by
  rw [List.takeWhile_cons, if_pos h]; simp
theorem takeWhile_le (p : UInt8 → Bool) (l : Bs) : (l.takeWhile p).length ≤ l.length := (List.takeWhile_sublist p).length_le
theorem small_part {c : UInt8} (h : small c = true) : part c = true := by simp [part, h]
theorem nib_dig {c : UInt8} (h : isDig c = true) : nib c = c.toNat - 48 ∧ nib c < 10 := by
  have h' := h
  simp [isDig] at h'
  refine ⟨by simp [nib, h], ?_⟩
  simp only [nib, h, if_true]; omega
theorem letter_len {q : UInt8} {l : Bs} {d : UInt8} {n : Nat} (h : letter q l = some (d, n)) : 1 ≤ n ∧ n ≤ l.length := by
  cases l with
  | nil => simp [letter] at h
  | cons c r =>
    simp only [letter] at h
    split at h
    · cases r with
      | nil => simp at h
      | cons e r' =>
        simp only [Option.map_eq_some_iff] at h
        obtain ⟨x, _, hx⟩ := h
        simp only [Prod.mk.injEq] at hx
        obtain ⟨_, rfl⟩ := hx
        simp
    · split at h
      · simp only [Option.some.injEq, Prod.mk.injEq] at h
        obtain ⟨_, rfl⟩ := h
        simp
      · cases h
theorem strG_len (l : Bs) : ∀ (st : Bool) (s : Bs) (n : Nat), strG st l = some (s, n) → 1 ≤ n ∧ n ≤ l.length ∧ s.length < n := by
  induction l with
  | nil => intro st s n h; cases st <;> simp [strG] at h
  | cons c r ih =>
    intro st s n h
    cases st with
    | true =>
      simp only [strG] at h
      cases he : esc c with
      | none => rw [he] at h; cases h
      | some d =>
        rw [he] at h
        simp only [Option.map_eq_some_iff] at h
        obtain ⟨⟨s', n'⟩, hs, hx⟩ := h
        simp only [Prod.mk.injEq] at hx
        obtain ⟨rfl, rfl⟩ := hx
        have := ih false s' n' hs
        simp; omega
    | false =>
      simp only [strG] at h
      split at h
      · simp only [Option.some.injEq, Prod.mk.injEq] at h
        obtain ⟨rfl, rfl⟩ := h
        simp
      · split at h
        · simp only [Option.map_eq_some_iff] at h
          obtain ⟨⟨s', n'⟩, hs, hx⟩ := h
          simp only [Prod.mk.injEq] at hx
          obtain ⟨rfl, rfl⟩ := hx
          have := ih true s' n' hs
          simp; omega
        · split at h
          · simp only [Option.map_eq_some_iff] at h
            obtain ⟨⟨s', n'⟩, hs, hx⟩ := h
            simp only [Prod.mk.injEq] at hx
            obtain ⟨rfl, rfl⟩ := hx
            have := ih false s' n' hs
            simp; omega
          · cases h
theorem tok_len {c : UInt8} {r : Bs} {k : Nat} {s : Bs} {n : Int} {len : Nat} (h : tok c r = .good k s n len) : 1 ≤ len ∧ len ≤ r.length + 1 := by
  unfold tok at h
  split at h
  · rename_i hs
    have h1 := takeWhile_pos (r := r) (small_part hs)
    have h2 := takeWhile_le part (c :: r)
    unfold wordR at h
    split at h
    · cases h
    · split at h
      · injection h with _ _ _ h; subst h; simp at h2 ⊢; omega
      · injection h with _ _ _ h; subst h; simp at h2 ⊢; omega
  · split at h
    · rename_i hd
      have hn := (nib_dig hd).2
      have h1 := takeWhile_pos (p := fun c => decide (nib c < 10)) (r := r) (c := c) (by simpa using hn)
      have h2 := takeWhile_le (fun c => decide (nib c < 10)) (c :: r)
      unfold numR digs at h
      split at h
      · cases h
      · injection h with _ _ _ h; subst h; simp only [List.length_cons] at h1 h2 ⊢; omega
    · split at h
      · cases r with
        | nil => simp [hexR] at h
        | cons d r' =>
          simp only [hexR] at h
          split at h
          · have h2 := takeWhile_le (fun c => decide (nib c < 16)) (d :: r')
            unfold numR digs at h
            split at h
            · cases h
            · injection h with _ _ _ h; subst h; simp only [List.length_cons] at h2 ⊢; omega
          · cases h
      · split at h
        · unfold charR at h
          split at h
          · cases h
          · rename_i d m hl
            have := letter_len hl
            split at h
            · rename_i hh
              injection h with _ _ _ h
              subst h
              have : m < r.length := by
                rcases Nat.lt_or_ge m r.length with h0 | h0
                · exact h0
                · rw [List.drop_of_length_le h0] at hh; cases hh
              omega
            · cases h
        · split at h
          · unfold textR at h
            split at h
            · cases h
            · rename_i s' m hl
              have := strG_len _ _ _ _ hl
              split at h
              · cases h
              · injection h with _ _ _ h; subst h; omega
          · unfold signR at h
            split at h
            · injection h with _ _ _ h; subst h; simp; omega
            · split at h
              · injection h with _ _ _ h; subst h; simp
              · cases h
theorem skipG_le (l : Bs) : ∀ st, skipG st l ≤ l.length := by
  induction l with
  | nil => intro st; cases st <;> simp [skipG]
  | cons c r ih =>
    intro st
    cases st with
    | true => simp only [skipG]; split <;> simp [ih]
    | false =>
      simp only [skipG]
      split
      · simp [ih]
      · split <;> simp [ih]

/-! the fuel does not matter -/
theorem rawF_fuel (f : Nat) : ∀ (g at_ : Nat) (l : Bs), l.length < f → l.length < g → rawF f at_ l = rawF g at_ l := by
  induction f with
  | zero => intro g a l h; omega
  | succ f ih =>
    intro g a l hf hg
    cases g with
    | zero => omega
    | succ g =>
      simp only [rawF]
      cases hd : l.drop (skipG false l) with
      | nil => rfl
      | cons c r =>
        simp only
        cases ht : tok c r with
        | bad e => rfl
        | good k s n len =>
          simp only
          have hl := tok_len ht
          have h1 : (c :: r).length ≤ l.length := by rw [← hd, List.length_drop]; omega
          have h2 : ((c :: r).drop len).length < (c :: r).length := by rw [List.length_drop]; simp only [List.length_cons]; omega
          rw [ih g _ ((c :: r).drop len) (by omega) (by omega)]
theorem raw_eq (at_ : Nat) (l : Bs) : raw at_ l =
    match l.drop (skipG false l) with
    | [] => ([], none)
    | c :: r =>
      match tok c r with
      | .bad e => ([], some (e, at_ + skipG false l))
      | .good k s n len => (⟨k, s, n, at_ + skipG false l⟩ :: (raw (at_ + skipG false l + len) ((c :: r).drop len)).1, (raw (at_ + skipG false l + len) ((c :: r).drop len)).2) := by
  conv => lhs; unfold raw; simp only [rawF]
  cases hd : l.drop (skipG false l) with
  | nil => rfl
  | cons c r =>
    simp only
    cases ht : tok c r with
    | bad e => rfl
    | good k s n len =>
      simp only
      have hl := tok_len ht
      have h1 : (c :: r).length ≤ l.length := by rw [← hd, List.length_drop]; omega
      have h2 : ((c :: r).drop len).length < (c :: r).length := by rw [List.length_drop]; simp only [List.length_cons]; omega
      unfold raw
      rw [rawF_fuel l.length (((c :: r).drop len).length + 1) _ _ (by omega) (by omega)]
theorem raw_end {at_ : Nat} {l : Bs} (h : skipG false l = l.length) : raw at_ l = ([], none) := by
  rw [raw_eq, h, List.drop_length]
theorem raw_bad {at_ : Nat} {l : Bs} {c : UInt8} {r : Bs} {e : Nat} (h : l.drop (skipG false l) = c :: r) (ht : tok c r = .bad e) : raw at_ l = ([], some (e, at_ + skipG false l)) := by
  rw [raw_eq, h]; simp only [ht]
theorem raw_good {at_ : Nat} {l : Bs} {c : UInt8} {r : Bs} {k : Nat} {s : Bs} {n : Int} {len : Nat} (h : l.drop (skipG false l) = c :: r) (ht : tok c r = .good k s n len) :
    raw at_ l = (⟨k, s, n, at_ + skipG false l⟩ :: (raw (at_ + skipG false l + len) ((c :: r).drop len)).1, (raw (at_ + skipG false l + len) ((c :: r).drop len)).2) := by
  rw [raw_eq, h]; simp only [ht]
/-! names -/
/-- whether a text has the bytes and the length of a name -/
def isWordB : Bs → Bool
  | [] => false
  | c :: r => decide ((c :: r).length ≤ 24) && small c && (c :: r).all part
def isNameB (l : Bs) : Bool := isWordB l && decide (l ∉ keyL)
theorem isWordB_long {l : Bs} (h : 24 < l.length) : isWordB l = false := by
  cases l with
  | nil => rfl
  | cons c r => simp only [isWordB]; rw [decide_eq_false (by omega)]; rfl
theorem isWordB_head {l : Bs} {c : UInt8} (h : l.head? = some c) (hc : small c = false) : isWordB l = false := by
  cases l with
  | nil => rfl
  | cons d r => simp at h; subst h; simp [isWordB, hc]
theorem isWordB_not {l : Bs} {k : Nat} (hk : k < l.length) (h : part l[k] = false) : isWordB l = false := by
  cases l with
  | nil => rfl
  | cons c r =>
    have : (c :: r).all part = false := by
      rw [List.all_eq_false]; exact ⟨_, List.getElem_mem hk, by simp [h]⟩
    simp only [isWordB, this, Bool.and_false]
theorem isWordB_yes {l : Bs} {c : UInt8} (h : l.head? = some c) (hc : small c = true) (hl : l.length ≤ 24) (ha : (l.take l.length).all part = true) : isWordB l = true := by
  cases l with
  | nil => simp at h
  | cons d r => simp at h; subst h; rw [List.take_length] at ha; simp only [isWordB, hc, ha, decide_eq_true hl]; rfl
theorem all_succ {p : UInt8 → Bool} {l : Bs} {k : Nat} (hk : k < l.length) (h : (l.take k).all p = true) (hp : p l[k] = true) : (l.take (k + 1)).all p = true := by
  rw [List.take_succ_eq_append_getElem hk, List.all_append, h]; simp [hp]
end Go.Proofs.YtfnkafnjpldaoaaDoor.LX
