/-
  Slices of strings that come in; a string as bytes of its own. No function of the program here.
-/
import Derived.Test.YtbdjccmlgdfapaaKinds
import Derived.SliceStrings
namespace Go.Proofs.Ytbdjccmlgdfapaa
open Go.RowKit
set_option linter.unusedVariables false

abbrev st : List UInt8 → Value := fun s => .string (str s)
/-- '[]byte(s)'. -/
theorem wpList_bytes_of {w : World} {ops : Array Oper} {rest : List Oper} {o : Oper} {a : Act} {Q : Exit → Act → World → Prop} (hgd : o.guard = none) (x : Operand)
    (ho : o.op = .convert 9 40 x) (s : List UInt8) (hx : a.eval x = .string (str s)) (hs : s.length ≤ maxLen)
    (h : ∀ g c w', Byt w' (some ⟨g, 0, none⟩) c s → w.heap.size ≤ g → Ex w w' → wpList Try.prog ops Q rest (a.put o.dst (.slice (some ⟨g, 0, none⟩) s.length c)) w') : wpList Try.prog ops Q (o :: rest) a w := by
  refine wpList_plain hgd fun K hK' => ?_
  have hrun := run_bytes_of_string (P := Try.prog) w 9 40 5 (str s) Try.underlying9 Try.underlying40 Try.underlying5
  rw [str_size] at hrun
  unfold Oper.wp
  simp [execOp, ho, hx, hrun, Result.andThen]
  refine hK' _ _ (h _ _ _ ?_ (Nat.le_refl _) ?_)
  · refine ⟨grownCap_ge _ _ _ _, grownCap_le_maxLen _ _ _ _ hs, by simp, fun i hi => ⟨_, 0, rfl, ?_⟩⟩
    have hh : (w.drew.alloc (.cells (bytesRow (str s) (grownCap w s.length 0 5)) 5 ((bytesRow (str s) (grownCap w s.length 0 5)).size, (bytesRow (str s) (grownCap w s.length 0 5)).size + 1))).heap[w.heap.size]? = some (.cells (bytesRow (str s) (grownCap w s.length 0 5)) 5 ((bytesRow (str s) (grownCap w s.length 0 5)).size, (bytesRow (str s) (grownCap w s.length 0 5)).size + 1)) := heap_alloc_new w.drew _
    rw [Nat.zero_add, cell_of_row _ _ i _ 5 _ hh]
    have hi' : i < (str s).data.size := by simpa [str] using hi
    simp only [bytesRow, Array.getElem?_append, Array.size_map, hi', if_true, Array.getElem?_map]
    simp [str, hi, M.bAt]
  · exact (Ex.drew w).trans ((Below.refl _ _).alloc (Nat.le_refl _) _)
/-- A slice of strings that came in. -/
def rowStrs (ss : List ByteArray) (n : Nat) : List (List UInt8) := (ss.take n).map fun s => s.data.toList
theorem str_back (s : ByteArray) : str s.data.toList = s := by cases s; simp [str]
theorem rd_strs {w : World} {x : Addr} {n cap : Nat} {ss : List ByteArray} (hl : n ≤ cap) (hm : cap ≤ maxLen) (hz : n ≤ ss.length)
    (hcell : ∀ i, i < ss.length → w.cell? (x.add i) = some (.string (ss.getD i ByteArray.empty))) : Rd st w (some x) cap (rowStrs ss n) := by
  have hlen : (rowStrs ss n).length = n := by simp [rowStrs]; omega
  refine ⟨by omega, hm, by simp, fun i y hi => ?_⟩
  obtain ⟨hil, hy⟩ := List.getElem?_eq_some_iff.1 hi
  rw [hlen] at hil
  have hc := hcell i (by omega)
  obtain ⟨b, off, spot⟩ := x
  have hspot : spot = none := by
    have := World.cell?_spot (hcell 0 (by omega))
    simpa [Addr.add] using this
  subst hspot
  rw [add_none] at hc
  refine ⟨b, off, rfl, ?_⟩
  rw [hc]
  have hi' : i < ss.length := by omega
  have e : y = ss[i].data.toList := by
    rw [← hy]
    simp only [rowStrs, List.getElem_map, List.getElem_take]
  rw [e]
  simp only [st, str_back]
  simp [hi']
theorem rowStrs_len {ss : List ByteArray} {n : Nat} (h : n ≤ ss.length) : (rowStrs ss n).length = n := by simp [rowStrs]; omega
theorem rowStrs_le {ss : List ByteArray} {n : Nat} (h : ∀ s ∈ ss, s.size ≤ maxLen) : ∀ x ∈ rowStrs ss n, x.length ≤ maxLen := by
  intro x hx
  simp only [rowStrs, List.mem_map] at hx
  obtain ⟨s, hs, rfl⟩ := hx
  have := h s (List.mem_of_mem_take hs)
  simpa using this
end Go.Proofs.Ytbdjccmlgdfapaa
