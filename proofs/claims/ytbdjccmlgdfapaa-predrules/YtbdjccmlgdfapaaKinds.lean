/-
  Rows of whole numbers that come in: of 64 bits without and with a sign.
-/
import Derived.Test.YtbdjccmlgdfapaaLists
namespace Go.Proofs.Ytbdjccmlgdfapaa
open Go.RowKit
set_option linter.unusedVariables false

abbrev n64 : Nat → Value := fun n => .int .u64 (n : Int)
abbrev z64 : Int → Value := fun n => .int .i64 n
abbrev n8 : UInt8 → Value := fun b => .int .u8 (b.toNat : Int)
def In64 (n : Int) : Prop := -9223372036854775808 ≤ n ∧ n ≤ 9223372036854775807
/-- The elements of a row of numbers that came in. -/
def rowNats (zs : List Int) (n : Nat) : List Nat := (zs.take n).map Int.toNat
theorem rowNats_len {zs : List Int} {n cap : Nat} (hl : n ≤ cap) (hz : zs.length = cap) : (rowNats zs n).length = n := by simp [rowNats]; omega
theorem rd_row {w : World} {x : Addr} {n cap : Nat} {zs : List Int} (hl : n ≤ cap) (hm : cap ≤ maxLen) (hz : zs.length = cap)
    (hcell : ∀ i, i < zs.length → w.cell? (x.add i) = some (.int .u64 (zs.getD i 0))) (hwz : ∀ z ∈ zs, (Lit.int .u64 z).wf = true) : Rd n64 w (some x) cap (rowNats zs n) := by
  have hlen := rowNats_len hl hz
  refine ⟨by omega, hm, by simp, fun i y hi => ?_⟩
  obtain ⟨hil, hy⟩ := List.getElem?_eq_some_iff.1 hi
  rw [hlen] at hil
  have hc := hcell i (by omega)
  obtain ⟨b, off, spot⟩ := x
  have hspot : spot = none := by
    have := World.cell?_spot (hcell 0 (by omega))
    simpa [Addr.add] using this
  subst hspot
  rw [add_none] at hc
  refine ⟨b, off, rfl, ?_⟩
  rw [hc]
  have hi' : i < zs.length := by omega
  have hwf := hwz zs[i] (List.getElem_mem hi')
  have h1 : IntKind.u64.min = 0 := rfl
  simp only [Lit.wf, Bool.and_eq_true, decide_eq_true_eq] at hwf
  have e : (y : Int) = zs[i] := by
    rw [← hy]
    simp only [rowNats, List.getElem_map, List.getElem_take]
    omega
  show some (Value.int IntKind.u64 (zs.getD i 0)) = some (.int .u64 (y : Int))
  rw [e]
  simp [hi']
theorem rowNats_lt {n : Nat} {zs : List Int} (hwz : ∀ z ∈ zs, (Lit.int .u64 z).wf = true) : ∀ y ∈ rowNats zs n, y < 18446744073709551616 := by
  intro y hy
  simp only [rowNats, List.mem_map] at hy
  obtain ⟨z, hz, rfl⟩ := hy
  have hwf := hwz z (List.mem_of_mem_take hz)
  have h1 : IntKind.u64.min = 0 := rfl
  have h2 : IntKind.u64.max = 18446744073709551615 := rfl
  simp only [Lit.wf, Bool.and_eq_true, decide_eq_true_eq] at hwf
  omega
/-- The elements of a row of numbers with a sign that came in. -/
def rowInts (zs : List Int) (n : Nat) : List Int := zs.take n
theorem rowInts_len {zs : List Int} {n cap : Nat} (hl : n ≤ cap) (hz : zs.length = cap) : (rowInts zs n).length = n := by simp [rowInts]; omega
theorem rd_rowInts {w : World} {x : Addr} {n cap : Nat} {zs : List Int} (hl : n ≤ cap) (hm : cap ≤ maxLen) (hz : zs.length = cap)
    (hcell : ∀ i, i < zs.length → w.cell? (x.add i) = some (.int .i64 (zs.getD i 0))) : Rd z64 w (some x) cap (rowInts zs n) := by
  have hlen := rowInts_len hl hz
  refine ⟨by omega, hm, by simp, fun i y hi => ?_⟩
  obtain ⟨hil, hy⟩ := List.getElem?_eq_some_iff.1 hi
  rw [hlen] at hil
  have hc := hcell i (by omega)
  obtain ⟨b, off, spot⟩ := x
  have hspot : spot = none := by
    have := World.cell?_spot (hcell 0 (by omega))
    simpa [Addr.add] using this
  subst hspot
  rw [add_none] at hc
  refine ⟨b, off, rfl, ?_⟩
  rw [hc]
  have hi' : i < zs.length := by omega
  have e : y = zs[i] := by rw [← hy]; simp [rowInts]
  show some (Value.int IntKind.i64 (zs.getD i 0)) = some (.int .i64 y)
  rw [e]
  simp [hi']
theorem rowInts_in {n : Nat} {zs : List Int} (hwz : ∀ z ∈ zs, (Lit.int .i64 z).wf = true) : ∀ y ∈ rowInts zs n, In64 y := by
  intro y hy
  have hwf := hwz y (List.mem_of_mem_take hy)
  have h1 : IntKind.i64.min = -9223372036854775808 := rfl
  have h2 : IntKind.i64.max = 9223372036854775807 := rfl
  simp only [Lit.wf, Bool.and_eq_true, decide_eq_true_eq] at hwf
  exact ⟨by omega, by omega⟩
theorem Try.info2 : (Try.prog.info? 2).map (fun i => (i.zero, i.size, i.bytes)) = some (some (.int .i64 0), 1, 8) := by kernel_rfl
theorem Try.info75 : (Try.prog.info? 75).map (fun i => (i.zero, i.size, i.bytes)) = some (some (.int .u64 0), 1, 8) := by kernel_rfl
end Go.Proofs.Ytbdjccmlgdfapaa
