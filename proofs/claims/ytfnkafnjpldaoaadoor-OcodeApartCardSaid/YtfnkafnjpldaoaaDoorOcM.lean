/- Code of the stack machine: what it is, and when it is valid. Mathematics alone: no function of the program is named here. -/
namespace OC
structure Op where
  op : Int
  n : Int
  m : Int
structure Dat where
  text : List UInt8
  isText : Bool
  words : List Int
structure Ent where
  g : Int
  p : Int
structure Code where
  name : List UInt8
  data : List Dat
  ops : List Op
  globals : List Ent
  procs : Int
  labels : Int
def oz : Op := ⟨0, 0, 0⟩
def dz : Dat := ⟨[], false, []⟩
def ez : Ent := ⟨0, 0⟩
def cz : Code := ⟨[], [], [], [], 0, 0⟩
def inB (v a b : Int) : Bool := decide (a ≤ v) && decide (v ≤ b)
def goesOn (o : Op) : Bool := decide (o.op ≠ 20) && decide (o.op ≠ 25) && decide (o.op ≠ 26) && decide (o.op ≠ 27) && decide (o.op ≠ 29) && decide (o.op ≠ 30)
def label (o : Op) : Int := if o.op = 20 ∨ o.op = 21 ∨ o.op = 22 ∨ o.op = 27 ∨ o.op = 29 then o.n else if o.op = 30 then o.m else 0
/-- how many words an area has at 16 bits -/
def datWords (d : Dat) : Nat := d.words.length + (if d.isText then (d.text.length + 2) / 2 else 0)
def sumWords : List Dat → Nat
  | [] => 0
  | d :: r => datWords d + sumWords r
def tooMuch (c : Code) : Bool := decide (40000 < c.ops.length) || decide (2000 < c.data.length) || decide (200 < c.procs) || decide (20000 < c.labels) || decide (7800 < sumWords c.data)
/-- whether the numbers of an instruction are as said; nd areas -/
def numB (nd procs labels : Int) (o : Op) : Bool :=
  (inB o.op 1 30 && inB o.n (-2147483648) 2147483647 && inB o.m (-2147483648) 2147483647) && ((decide (o.op = 24) || decide (o.op = 29) || decide (o.op = 30)) || decide (o.m = 0)) &&
  (if o.op = 1 then true
   else if o.op = 2 ∨ o.op = 3 ∨ o.op = 4 ∨ o.op = 23 ∨ o.op = 18 ∨ o.op = 28 then inB o.n 0 4000
   else if o.op = 5 ∨ o.op = 6 ∨ o.op = 7 then inB o.n 0 199
   else if o.op = 8 ∨ o.op = 9 ∨ o.op = 10 then inB o.n 0 (nd - 1)
   else if o.op = 11 then inB o.n 1 procs
   else if o.op = 16 then inB o.n 1 17
   else if o.op = 17 then decide (o.n = 18) || decide (o.n = 19)
   else if o.op = 19 ∨ o.op = 20 ∨ o.op = 21 ∨ o.op = 22 ∨ o.op = 27 then inB o.n 1 labels
   else if o.op = 24 then inB o.n 1 procs && inB o.m 0 8
   else if o.op = 29 then inB o.n 1 labels && inB o.m 0 1000
   else if o.op = 30 then inB o.m 1 labels
   else decide (o.n = 0))
def after (o : Op) (d : Int) : Int :=
  if o.op = 1 ∨ o.op = 2 ∨ o.op = 4 ∨ o.op = 5 ∨ o.op = 7 ∨ o.op = 8 ∨ o.op = 10 ∨ o.op = 11 then d + 1
  else if o.op = 3 ∨ o.op = 6 ∨ o.op = 9 ∨ o.op = 16 ∨ o.op = 14 ∨ o.op = 21 ∨ o.op = 22 ∨ o.op = 29 ∨ o.op = 25 ∨ o.op = 27 then d - 1
  else if o.op = 13 then d - 2
  else if o.op = 15 then d - 3
  else if o.op = 18 then o.n
  else if o.op = 23 ∨ o.op = 28 then o.n + 1
  else if o.op = 24 then 2 + o.m
  else d
def needs (o : Op) : Int :=
  if o.op = 3 ∨ o.op = 6 ∨ o.op = 9 ∨ o.op = 12 ∨ o.op = 17 ∨ o.op = 21 ∨ o.op = 22 ∨ o.op = 29 ∨ o.op = 25 ∨ o.op = 27 then 1
  else if o.op = 16 ∨ o.op = 14 ∨ o.op = 13 then 2
  else if o.op = 15 then 3
  else 0
def localB (o : Op) (d : Int) : Bool :=
  if o.op = 2 ∨ o.op = 3 then inB o.n 2 (d - 1)
  else if o.op = 4 then decide (2 ≤ o.n)
  else if o.op = 23 then inB o.n 2 (d - 3)
  else if o.op = 18 then decide (o.n ≤ d + 2002)
  else true
/-- the op of the next instruction; behind the last one it is as if a procedure began -/
def nx : List Op → Int
  | [] => 24
  | x :: _ => x.op
/-- whether procedures, switches, cases and labels stand as said; first: nothing stands before -/
def orderB : Bool → Int → Int → Int → List Op → Option (Int × Int × Int)
  | _, p, l, k, [] => some (p, l, k)
  | first, p, l, k, o :: r =>
    if decide (0 < k) ≠ decide (o.op = 30) then none
    else if o.op = 24 ∧ o.n ≠ p + 1 then none
    else if o.op = 19 ∧ ¬ (nx r = 18 ∨ nx r = 28 ∨ nx r = 19) then none
    else if goesOn o = true ∧ nx r = 24 then none
    else if first = true ∧ o.op ≠ 24 then none
    else orderB false (if o.op = 24 then p + 1 else p) (if o.op = 19 then max l o.n else l) (if o.op = 29 then o.m else if 0 < k then k - 1 else k) r
def orderOk (c : Code) : Bool := decide (orderB true 0 0 0 c.ops = some (c.procs, c.labels, 0))
/-- the places of labels; none: one is there twice -/
def plc : List Op → Nat → List Int → Option (List Int)
  | [], _, t => some t
  | o :: r, i, t => if o.op = 19 then (if 0 ≤ t.getD o.n.toNat (-1) then none else plc r (i + 1) (t.set o.n.toNat i)) else plc r (i + 1) t
/-- in which procedures instructions are -/
def prc : Int → List Op → List Int
  | _, [] => []
  | p, o :: r => (if o.op = 24 then p + 1 else p) :: prc (if o.op = 24 then p + 1 else p) r
/-- whether the labels that are named are there, in the same procedure -/
def namedB (t q : List Int) : List Op → List Int → Bool
  | o :: r, p :: ps => (decide (label o ≤ 0) || (decide (0 ≤ t.getD (label o).toNat (-1)) && decide (q.getD (t.getD (label o).toNat (-1)).toNat 0 = p))) && namedB t q r ps
  | _, _ => true
def t0 (c : Code) : List Int := List.replicate (c.labels + 1).toNat (-1)
/-- whether an OTake stands behind labels -/
def landsB : List Op → Bool
  | [] => false
  | o :: r => if o.op = 19 then landsB r else decide (o.op = 28)
def deepB (ops : List Op) (t : List Int) : Int → Bool → Op → List Op → Bool
  | _, _, _, [] => true
  | d, fr, pv, o :: r =>
    if o.op = 24 then deepB ops t (2 + o.m) true o r
    else if d - needs o < 2 ∨ inB (after o d) 2 4000 = false ∨ (¬ (o.op = 18 ∧ pv.op = 19) ∧ localB o d = false) then false
    else if o.op = 28 ∧ fr = true then false
    else if 0 < label o ∧ landsB (ops.drop (t.getD (label o).toNat (-1)).toNat) ≠ decide (o.op = 27) then false
    else deepB ops t (after o d) (if o.op ≠ 19 then goesOn o else fr) o r
def wordOk (n : Int) : Bool := inB n (-2147483648) 2147483647
/-- the entries, each with those before it -/
def entB (procs : Int) : List Ent → List Ent → Bool
  | _, [] => true
  | pre, e :: r => inB e.g 1 199 && inB e.p 1 procs && pre.all (fun x => decide (x.g ≠ e.g)) && entB procs (pre ++ [e]) r
end OC
