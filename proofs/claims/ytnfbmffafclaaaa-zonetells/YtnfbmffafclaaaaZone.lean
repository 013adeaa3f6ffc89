/-
  Plain facts on zones: what a zone is, when it is Right, how one is built of cells, joined. No program here.
-/
import Derived.Test.YtnfbmffafclaaaaOrder
namespace Go.Proofs.Ytnfbmffafclaaaa
/-- A zone. -/
structure Zn where
  k : Int
  r : Int
  u : Int
  mn : Int
  mx : Int
  ms : List UInt8
  xs : List UInt8
/-- A cell. -/
structure Cel where
  col : List UInt8
  k : Int
  n : Int
  s : List UInt8
namespace Z
abbrev le (x y : List UInt8) : Bool := !T.lt y x
def zero : Zn := ⟨0, 0, 0, 0, 0, [], []⟩
def shape (z : Zn) : Bool := decide (z.k = 1 ∨ z.k = 2) && decide (0 ≤ z.u) && decide (z.u ≤ z.r) && decide (z.r ≤ 1048576) && decide (z.ms.length ≤ 40) && decide (z.xs.length ≤ 40)
def nums (z : Zn) : Bool := decide (z.mn = 0) && decide (z.mx = 0)
def texts (z : Zn) : Bool := decide (z.ms = []) && decide (z.xs = [])
def right (z : Zn) : Bool := shape z && (if z.r = z.u then nums z && texts z else if z.k = 1 then texts z && decide (z.mn ≤ z.mx) else nums z && le z.ms z.xs)
/-- One cell more. -/
def step (k : Int) (z : Zn × Bool) (c : Cel) : Zn × Bool :=
  if c.k ≠ k ∨ c.k = 0 then ({ z.1 with u := z.1.u + 1 }, z.2)
  else if k = 1 then ({ z.1 with mn := if z.2 = true ∨ c.n < z.1.mn then c.n else z.1.mn, mx := if z.2 = true ∨ z.1.mx < c.n then c.n else z.1.mx }, false)
  else if k = 2 then ({ z.1 with ms := if z.2 = true ∨ T.lt c.s z.1.ms = true then c.s else z.1.ms, xs := if z.2 = true ∨ T.lt z.1.xs c.s = true then c.s else z.1.xs }, false)
  else (z.1, false)
def fold (k : Int) (n : Int) (l : List Cel) : Zn × Bool := l.foldl (step k) (⟨k, n, 0, 0, 0, [], []⟩, true)
def build (k : Int) (l : List Cel) : Zn := (fold k l.length l).1
theorem fold_snoc (k n : Int) (l : List Cel) (c : Cel) : fold k n (l ++ [c]) = step k (fold k n l) c := by simp [fold]
/-- Both columns, one behind the other. -/
def both (a b : Zn) : Zn :=
  let z := if a.r = a.u then b else a
  let y := if a.u < a.r ∧ b.u < b.r then { z with mn := if b.mn < z.mn then b.mn else z.mn, mx := if z.mx < b.mx then b.mx else z.mx, ms := if T.lt b.ms z.ms = true then b.ms else z.ms, xs := if T.lt z.xs b.xs = true then b.xs else z.xs } else z
  { y with r := a.r + b.r, u := a.u + b.u }
def join (a b : Zn) : Zn × Nat :=
  if a.k ≠ b.k then (zero, 22) else if right a = false ∨ right b = false ∨ 1048576 < a.r + b.r then (zero, 1) else (both a b, 0)
end Z
end Go.Proofs.Ytnfbmffafclaaaa
