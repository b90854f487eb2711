/- The program's way of asking whether code is valid, as functions: definitions alone. -/
import Derived.Test.YtfnkafnjpldaoaaDoorOcM
namespace OC
/-- whether what is behind an instruction may be reached from it; r: what is behind -/
def goQ (o : Op) (r : List Op) : Bool :=
  if o.op = 20 ∨ o.op = 25 ∨ o.op = 26 ∨ o.op = 27 then false
  else if o.op = 29 then decide (0 < o.m)
  else if o.op = 30 then decide (nx r = 30)
  else true
def casQ : Int → List Op → Bool
  | k, [] => decide (k = 0)
  | k, o :: r => if decide (o.op = 30) ≠ decide (0 < k) then false else casQ (if o.op = 30 then k - 1 else if o.op = 29 then o.m else k) r
def proQ (P : Int) : Int → List Op → Bool
  | p, [] => decide (p = P)
  | p, o :: r =>
    if (if o.op = 24 then p + 1 else p) = 0 ∨ (o.op = 24 ∧ o.n ≠ (if o.op = 24 then p + 1 else p)) then false
    else if nx r = 24 ∧ goQ o r = true then false
    else proQ P (if o.op = 24 then p + 1 else p) r
def folQ : List Op → Bool
  | [] => true
  | o :: r => if o.op = 19 ∧ ¬ (nx r = 18 ∨ nx r = 28 ∨ nx r = 19) then false else folQ r
def maxL : Int → List Op → Int
  | l, [] => l
  | l, o :: r => maxL (if o.op = 19 then max l o.n else l) r
def homQ : Int → List Op → List Int → Option (List Int)
  | _, [], h => some h
  | p, o :: r, h =>
    if o.op = 24 then homQ o.n r h
    else if o.op = 19 then (if h.getD o.n.toNat 0 ≠ 0 ∨ ¬ (nx r = 18 ∨ nx r = 28 ∨ nx r = 19) then none else homQ p r (h.set o.n.toNat p))
    else homQ p r h
def lstP : Int → List Op → Int
  | p, [] => p
  | p, o :: r => lstP (if o.op = 24 then o.n else p) r
def namQ (h : List Int) : Int → List Op → Bool
  | _, [] => true
  | p, o :: r => (decide (label o = 0) || decide (h.getD (label o).toNat 0 = (if o.op = 24 then o.n else p))) && namQ h (if o.op = 24 then o.n else p) r
def labQ (labels : Int) (ops : List Op) : Bool :=
  match homQ 0 ops (List.replicate ((max labels 0).toNat + 1) 0) with
  | none => false
  | some h => namQ h (lstP 0 ops) ops && (decide (labels = 0) || (decide (0 < labels) && decide (h.getD labels.toNat 0 ≠ 0)))
def fitQ (o : Op) (d : Int) : Bool :=
  if o.op = 2 ∨ o.op = 3 then decide (2 ≤ o.n) && decide (o.n < d)
  else if o.op = 4 then decide (2 ≤ o.n)
  else if o.op = 23 then decide (2 ≤ o.n) && decide (o.n + 2 < d)
  else if o.op = 12 ∨ o.op = 17 then decide (2 < d)
  else if o.op = 16 ∨ o.op = 14 then decide (3 < d)
  else true
/-- one instruction at its depth; pv: the op before it -/
def kepB (o : Op) (d pv : Int) : Bool :=
  decide (2 ≤ after o d) && decide (after o d ≤ 4000) && fitQ o d && !(decide (o.op = 18) && decide (pv ≠ 19) && decide (d + 2002 < o.n))
def kepQ : Int → Int → List Op → Bool
  | _, _, [] => true
  | d, pv, o :: r => kepB o (if o.op = 24 then 0 else d) pv && kepQ (after o (if o.op = 24 then 0 else d)) o.op r
def plaQ : Nat → List Op → List Int → List Int
  | _, [], t => t
  | i, o :: r, t => plaQ (i + 1) r (if o.op = 19 then t.set o.n.toNat i else t)
def reaQ (ops : List Op) (q : List Int) : List Op → Bool
  | [] => true
  | o :: r =>
    if label o ≠ 0 ∧ landsB (ops.drop (q.getD (label o).toNat 0).toNat) ≠ decide (o.op = 27) then false
    else if o.op ≠ 19 ∧ goQ o r = true ∧ landsB r = true then false
    else reaQ ops q r
/-- kinds of numbers, as the table of instructions has them -/
def kindN (op : Int) : Int :=
  if op = 1 ∨ op = 30 then 1
  else if op = 2 ∨ op = 3 ∨ op = 4 ∨ op = 18 ∨ op = 23 ∨ op = 28 then 2
  else if op = 5 ∨ op = 6 ∨ op = 7 then 3
  else if op = 8 ∨ op = 9 ∨ op = 10 then 4
  else if op = 11 ∨ op = 24 then 5
  else if op = 19 ∨ op = 20 ∨ op = 21 ∨ op = 22 ∨ op = 27 ∨ op = 29 then 6
  else if op = 16 then 7
  else if op = 17 then 8
  else 0
def kindM (op : Int) : Int := if op = 24 then 9 else if op = 29 then 10 else if op = 30 then 6 else 0
def lowQ (k : Int) : Int := if k = 1 then -2147483648 else if k = 5 ∨ k = 6 ∨ k = 7 then 1 else if k = 8 then 18 else 0
def highQ (nd procs labels : Int) (k : Int) : Int :=
  if k = 1 then 2147483647 else if k = 2 then 4000 else if k = 3 then 199 else if k = 4 then nd - 1 else if k = 5 then procs else if k = 6 then labels
  else if k = 7 then 17 else if k = 8 then 19 else if k = 9 then 8 else if k = 10 then 1000 else 0
def allowQ (nd procs labels k n : Int) : Bool := decide (lowQ k ≤ n) && decide (n ≤ highQ nd procs labels k)
def numQ (nd procs labels : Int) (o : Op) : Bool := inB o.op 1 30 && allowQ nd procs labels (kindN o.op) o.n && allowQ nd procs labels (kindM o.op) o.m
def cntO (k : Int) : List Op → Nat
  | [] => 0
  | o :: r => (if o.op = k then 1 else 0) + cntO k r
def mostW (d : Dat) : Nat := if d.isText then (d.text.length + 2) / 2 else d.words.length
def sumM : List Dat → Nat
  | [] => 0
  | d :: r => mostW d + sumM r
def withinQ (c : Code) : Bool :=
  decide (c.ops.length ≤ 40000) && decide (c.data.length ≤ 2000) && decide (sumM c.data ≤ 7800) && decide (max c.procs (cntO 24 c.ops) ≤ 200) && decide (max c.labels (cntO 19 c.ops) ≤ 20000)
end OC
