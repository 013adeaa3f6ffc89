/-
  What is owned, or read, stays so in later worlds.
-/
import Derived.Test.YtphlfajkcbhpoaaBook
namespace Go.Proofs.Ytphlfajkcbhpoaa
open Go.RowKit

theorem Ex.size {w w' : World} (h : Ex w w') : w.heap.size ≤ w'.heap.size := Below.size h
theorem Own.later {w w' : World} {base : Nat} {v : Value} {l : List UInt8} (h : Own w base v l) (hx : Ex w w') : Own w' base v l := by
  obtain ⟨h1, h2⟩ := h
  refine ⟨h1, ?_⟩
  rcases h2 with h2 | ⟨g, cap, cur, hv, hb, hg, r⟩
  · exact .inl h2
  · exact .inr ⟨g, cap, cur, hv, hb, by rw [hx.block g (Array.getElem?_eq_some_iff.1 hg).1]; exact hg, r⟩
theorem Own.bytS {w : World} {base n cap : Nat} {a : Option Addr} {l : List UInt8} (h : Own w base (.slice a n cap) l) : Byt w a cap l := by
  obtain ⟨a', cap', hv, hb⟩ := h.byt
  simp only [Value.slice.injEq] at hv
  obtain ⟨rfl, _, rfl⟩ := hv
  exact hb

end Go.Proofs.Ytphlfajkcbhpoaa
