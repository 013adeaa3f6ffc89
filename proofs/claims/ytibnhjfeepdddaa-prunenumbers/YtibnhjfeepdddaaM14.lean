/-
  Plain facts on predicates: the columns that they name, how they are written and read. No program here.
-/
import Derived.Test.YtibnhjfeepdddaaM07
namespace Go.Proofs.Ytibnhjfeepdddaa
set_option linter.unusedVariables false
set_option linter.unusedSimpArgs false
namespace Pd
/-- Bytes that lie in others, from a place on. -/
def Lies (b : List UInt8) (k : Nat) (E : List UInt8) : Prop := ∃ P Z, b = P ++ E ++ Z ∧ P.length = k
theorem Lies.get {b : List UInt8} {k n : Nat} (h : Lies b k (M.digs n)) (hn : n < 18446744073709551616) : M.get b (k : Int) = (n, k + (M.digs n).length, 0) := by
 obtain ⟨P, Z, rfl, rfl⟩ := h
 exact M.get_digs hn P Z
theorem Lies.text {b s : List UInt8} {k : Nat} {m : Int} (h : Lies b k (T.ptext s)) (hm : (s.length : Int) ≤ m) (hs : s.length < 18446744073709551616) : M.getText b (k : Int) m = (s, k + (T.ptext s).length, 0) := by
 obtain ⟨P, Z, rfl, rfl⟩ := h
 rw [Rw.text_at P s Z m hm hs, List.length_append]
/-- As bytes. -/
def encH (h : Hd) (n : Nat) : List UInt8 :=
 M.digs h.k.toNat ++ (if h.k = 1 ∨ h.k = 2 then M.digs n else if h.k = 3 then [] else if h.k = 10 then M.digs (M.zig h.n).toNat ++ M.digs (M.zig h.m).toNat
  else T.ptext h.col ++ (if h.k = 4 ∨ h.k = 5 then M.digs (M.zig h.n).toNat else if h.k = 6 ∨ h.k = 8 then T.ptext h.s else if h.k = 7 then M.digs h.set.length ++ T.texts h.set else []))
def enc : Pr → List UInt8 := rec' fun h l a => encH h l.length ++ a.flatten
/-- Numbers that an int64 bears. -/
def num : Pr → Prop := rec' fun h _ a => (In64 h.n ∧ In64 h.m) ∧ ∀ x ∈ a, x
/-- Of bytes: texts, a head, a predicate. What is answered: what was read, where it ends, (how many parts there were,) why it is refused. -/
def rdT (b : List UInt8) : Nat → Nat → List (List UInt8) → List (List UInt8) × Nat × Nat
 | 0, k, o => (o, k, 0)
 | n + 1, k, o => if (M.getText b k 40).2.2 ≠ 0 then ([], 0, (M.getText b k 40).2.2) else rdT b n (M.getText b k 40).2.1 (o ++ [(M.getText b k 40).1])
def rdC2 (b : List UInt8) (K : Nat) (c : List UInt8) (k : Nat) : Hd × Nat × Nat × Nat :=
 if K = 4 ∨ K = 5 then (if (M.get b k).2.2 ≠ 0 then (hk 0, 0, 0, (M.get b k).2.2) else (⟨K, c, M.zag ((M.get b k).1 : Int), 0, [], []⟩, 0, (M.get b k).2.1, 0))
 else if K = 6 ∨ K = 8 then (if (M.getText b k 40).2.2 ≠ 0 then (hk 0, 0, 0, (M.getText b k 40).2.2) else (⟨K, c, 0, 0, (M.getText b k 40).1, []⟩, 0, (M.getText b k 40).2.1, 0))
 else if K = 7 then (if (M.get b k).2.2 ≠ 0 then (hk 0, 0, 0, (M.get b k).2.2) else if 8 < (M.get b k).1 then (hk 0, 0, 0, 4) else
  if (rdT b (M.get b k).1 (M.get b k).2.1 []).2.2 ≠ 0 then (hk 0, 0, 0, (rdT b (M.get b k).1 (M.get b k).2.1 []).2.2) else (⟨K, c, 0, 0, [], (rdT b (M.get b k).1 (M.get b k).2.1 []).1⟩, 0, (rdT b (M.get b k).1 (M.get b k).2.1 []).2.1, 0))
 else (⟨K, c, 0, 0, [], []⟩, 0, k, 0)
def rdH (b : List UInt8) (K k : Nat) : Hd × Nat × Nat × Nat :=
 if K = 1 ∨ K = 2 then (if (M.get b k).2.2 ≠ 0 then (hk 0, 0, 0, (M.get b k).2.2) else if 40 < (M.get b k).1 then (hk 0, 0, 0, 4) else (hk K, (M.get b k).1, (M.get b k).2.1, 0))
 else if K = 3 then (hk 3, 1, k, 0)
 else if K = 10 then (if (M.get b k).2.2 ≠ 0 then (hk 0, 0, 0, (M.get b k).2.2) else if (M.get b (M.get b k).2.1).2.2 ≠ 0 then (hk 0, 0, 0, (M.get b (M.get b k).2.1).2.2) else
  (⟨10, [], M.zag ((M.get b k).1 : Int), M.zag ((M.get b (M.get b k).2.1).1 : Int), [], []⟩, 0, (M.get b (M.get b k).2.1).2.1, 0))
 else (if (M.getText b k 12).2.2 ≠ 0 then (hk 0, 0, 0, (M.getText b k 12).2.2) else rdC2 b K (M.getText b k 12).1 (M.getText b k 12).2.1)
def rdK (R : Nat → Nat → Pr × Nat × Nat × Nat) : Nat → Nat → Nat → List Pr → List Pr × Nat × Nat × Nat
 | 0, k, c, o => (o, k, c, 0)
 | n + 1, k, c, o => if (R k c).2.2.2 ≠ 0 then ([], 0, 0, (R k c).2.2.2) else rdK R n (R k c).2.1 (R k c).2.2.1 (o ++ [(R k c).1])
def rd4 (R : Nat → Nat → Pr × Nat × Nat × Nat) (c : Nat) (x : Hd × Nat × Nat × Nat) : Pr × Nat × Nat × Nat :=
 if x.2.2.2 ≠ 0 then (zero, 0, 0, x.2.2.2) else
 if (rdK R x.2.1 x.2.2.1 c []).2.2.2 ≠ 0 then (zero, 0, 0, (rdK R x.2.1 x.2.2.1 c []).2.2.2) else
 (Pr.mk' x.1 (rdK R x.2.1 x.2.2.1 c []).1, (rdK R x.2.1 x.2.2.1 c []).2.1, (rdK R x.2.1 x.2.2.1 c []).2.2.1, 0)
def rd (b : List UInt8) : Nat → Int → Nat → Pr × Nat × Nat × Nat
 | 0, _, _ => (zero, 0, 0, 24)
 | f + 1, k, c =>
  if 40 < c + 1 then (zero, 0, 0, 4) else
  if (M.get b k).2.2 ≠ 0 then (zero, 0, 0, (M.get b k).2.2) else
  if (M.get b k).1 < 1 ∨ 10 < (M.get b k).1 then (zero, 0, 0, 12) else
  rd4 (fun k c => rd b f (k : Int) c) (c + 1) (rdH b (M.get b k).1 (M.get b k).2.1)
theorem size_pos : ∀ p, 1 ≤ size p := by
 refine tree ?_
 intro h l _
 rw [size_mk]; omega
theorem sum_len : ∀ (l : List Pr), l.length ≤ (l.map size).sum
 | [] => by simp
 | x :: l => by
  have h1 := size_pos x
  have h2 := sum_len l
  rw [List.map_cons, List.sum_cons, List.length_cons]; omega
theorem deep_in {l : List Pr} {x : Pr} (h : x ∈ l) : deep x ≤ (l.map deep).foldr max 0 := by
 induction l with
 | nil => simp at h
 | cons y t ih =>
  rw [List.map_cons, List.foldr_cons]
  rcases List.mem_cons.1 h with rfl | h
  ·omega
  ·have := ih h; omega
end Pd
end Go.Proofs.Ytibnhjfeepdddaa
