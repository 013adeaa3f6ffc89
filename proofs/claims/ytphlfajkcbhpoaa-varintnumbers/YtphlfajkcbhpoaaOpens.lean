/-
  What the rows' frames want of bytes and strings that come in: a slice of bytes as it is read is a list of bytes.
-/
import Derived.Test.YtphlfajkcbhpoaaKnown
namespace Go.Proofs.Ytphlfajkcbhpoaa
open Go.RowKit

theorem str_of (a : ByteArray) : ∃ s : List UInt8, a = str s := ⟨a.data.toList, by cases a; simp [str]⟩
theorem str_size (l : List UInt8) : (str l).size = l.length := by show (str l).data.size = _; simp [str]
/-- The elements of a row of bytes. -/
def rowBytes (zs : List Int) (n : Nat) : List UInt8 := (zs.take n).map fun z => UInt8.ofNat z.toNat
theorem rowBytes_len {zs : List Int} {n cap : Nat} (hl : n ≤ cap) (hz : zs.length = cap) : (rowBytes zs n).length = n := by simp [rowBytes]; omega
theorem byt_row {w : World} {x : Addr} {n cap : Nat} {zs : List Int} (hl : n ≤ cap) (hm : cap ≤ maxLen) (hz : zs.length = cap)
    (hcell : ∀ i, i < zs.length → w.cell? (x.add i) = some (.int .u8 (zs.getD i 0))) (hwz : ∀ z ∈ zs, (Lit.int .u8 z).wf = true) : Byt w (some x) cap (rowBytes zs n) := by
  have hlen := rowBytes_len hl hz
  refine ⟨by omega, hm, by simp, fun i hi => ?_⟩
  rw [hlen] at hi
  have hc := hcell i (by omega)
  obtain ⟨b, off, spot⟩ := x
  have hspot : spot = none := by
    have := World.cell?_spot (hcell 0 (by omega))
    simpa [Addr.add] using this
  subst hspot
  rw [add_none] at hc
  refine ⟨b, off, rfl, ?_⟩
  rw [hc]
  have hi' : i < zs.length := by omega
  have hwf := hwz zs[i] (List.getElem_mem hi')
  have h1 : IntKind.u8.min = 0 := rfl
  have h2 : IntKind.u8.max = 255 := rfl
  simp only [Lit.wf, Bool.and_eq_true, decide_eq_true_eq] at hwf
  have e : (M.bAt (rowBytes zs n) i : Int) = zs[i] := by
    simp only [M.bAt, rowBytes, List.getD_eq_getElem?_getD, List.getElem?_map, List.getElem?_take, if_pos hi, List.getElem?_eq_getElem hi', Option.map_some, Option.getD_some, UInt8.toNat_ofNat']
    omega
  rw [e]
  simp [hi']
end Go.Proofs.Ytphlfajkcbhpoaa
