/-
  The books' own Short: rows that are not too large.
-/
import Derived.Test.YtbdjccmlgdfapaaGreatKrows
import Derived.Test.YtbdjccmlgdfapaaGreatStrs
namespace Go.Proofs.YtbdjccmlgdfapaaGreat
open Go.RowKit
set_option linter.unusedVariables false
set_option linter.unusedSimpArgs false
namespace Rw
def shc (c : Ce) : Ce := ⟨c.col.take 20, c.k, c.n, c.s.take 41⟩
def shr (r : Rw) : Rw := ⟨r.t, r.q, (r.c.take 10).map shc⟩
def short (l : List Rw) (m : Int) : List Rw := (l.take m.toNat).map shr
end Rw
theorem OwnC.four {w : World} {base n cap : Nat} {a : Option Addr} {M : List Ce} (h : OwnC w base (.slice a n cap) M) {k : Nat} (hk : k < M.length) : ∃ g, a = some ⟨g, 0, none⟩ ∧ base ≤ g ∧ g < w.heap.size ∧ n = M.length ∧ n ≤ cap ∧ cap ≤ 9223372036854775807 ∧ w.cell? ⟨g, k * 4, none⟩ = some (.string (str M[k].col)) ∧ w.cell? ⟨g, k * 4 + 1, none⟩ = some (.int .i64 M[k].k) ∧ w.cell? ⟨g, k * 4 + 2, none⟩ = some (.int .i64 M[k].n) ∧ w.cell? ⟨g, k * 4 + 3, none⟩ = some (.string (str M[k].s)) := by
 obtain ⟨a', c', he, hr⟩ := h.rd cc_len
 simp only [Value.slice.injEq] at he
 obtain ⟨rfl, rfl, rfl⟩ := he
 have hl := h.lt
 obtain ⟨h1, h2⟩ := h
 rcases h2 with ⟨_, h0⟩ | ⟨g, cap', cur, he, hb, hg, _⟩
 ·omega
 ·simp only [Value.slice.injEq] at he
  obtain ⟨rfl, _, _⟩ := he
  obtain ⟨b, off, e, c0, c1, c2, c3⟩ := RdC.four hr hk
  simp only [Option.some.injEq, Addr.mk.injEq, and_true] at e
  obtain ⟨rfl, rfl⟩ := e
  simp only [Nat.zero_add] at c0 c1 c2 c3
  have hm := hr.2.1
  unfold maxLen at hm
  exact ⟨g, rfl, hb, (hl g rfl).2, rfl, hr.1, by omega, c0, c1, c2, c3⟩
end Go.Proofs.YtbdjccmlgdfapaaGreat
