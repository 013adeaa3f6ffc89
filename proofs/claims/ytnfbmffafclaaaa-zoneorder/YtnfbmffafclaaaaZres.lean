/-
  A result that lies in a block: a zone.
-/
import Derived.Test.YtnfbmffafclaaaaZat
namespace Go.Proofs.Ytnfbmffafclaaaa
open Go.RowKit
set_option linter.unusedVariables false
set_option linter.unusedSimpArgs false
theorem ZAt.all {w : World} {g : Nat} {z : Zn} {t : TypeId} (h : ZAt w g z t) : w.cell? ⟨g, 0, none⟩ = some (.int .i64 z.k) ∧ w.cell? ⟨g, 1, none⟩ = some (.int .i64 z.r) ∧ w.cell? ⟨g, 2, none⟩ = some (.int .i64 z.u) ∧ w.cell? ⟨g, 3, none⟩ = some (.int .i64 z.mn) ∧ w.cell? ⟨g, 4, none⟩ = some (.int .i64 z.mx) ∧ w.cell? ⟨g, 5, none⟩ = some (.string (str z.ms)) ∧ w.cell? ⟨g, 6, none⟩ = some (.string (str z.xs)) :=
  ⟨h.cell 0, h.cell 1, h.cell 2, h.cell 3, h.cell 4, h.cell 5, h.cell 6⟩
set_option maxHeartbeats 1000000 in
theorem load_zone {w9 : World} {g : Nat} {z : Zn} (h : ZAt w9 g z 23) : (loadVar 23 ⟨g, 0, none⟩).run Try.prog w9 = .ok (zv z) w9 := by
  have c0 : w9.cell? ⟨g, 0, none⟩ = some (.int .i64 z.k) := h.cell 0
  have c1 : w9.cell? ⟨g, 1, none⟩ = some (.int .i64 z.r) := h.cell 1
  have c2 : w9.cell? ⟨g, 2, none⟩ = some (.int .i64 z.u) := h.cell 2
  have c3 : w9.cell? ⟨g, 3, none⟩ = some (.int .i64 z.mn) := h.cell 3
  have c4 : w9.cell? ⟨g, 4, none⟩ = some (.int .i64 z.mx) := h.cell 4
  have c5 : w9.cell? ⟨g, 5, none⟩ = some (.string (str z.ms)) := h.cell 5
  have c6 : w9.cell? ⟨g, 6, none⟩ = some (.string (str z.xs)) := h.cell 6
  clear h
  simp [go_sem, zv, c0, c1, c2, c3, c4, c5, c6]
theorem res_zone {fn : Func} {tmps : Array Value} {w9 : World} {g i : Nat} {z : Zn} (hfn : fn.results = #[ResultVar.cell i 23]) (ht : tmps.getD i undef = .pointer (some ⟨g, 0, none⟩)) (h : ZAt w9 g z 23) : (results fn tmps).run Try.prog w9 = .ok (zv z) w9 := by
  have hl := load_zone h
  have ht' : tmps[i]?.getD undef = .pointer (some ⟨g, 0, none⟩) := by simpa using ht
  simp [results, hfn, ht', asAddr, Sem.run_bind, Result.andThen, hl]
set_option maxHeartbeats 1000000 in
theorem rload_zone {w9 : World} {g : Nat} {z : Zn} (h : ZAt w9 g z 31) : (loadVar 31 ⟨g, 0, none⟩).run Try.prog w9 = .ok (zv z) w9 := by
  have c0 : w9.cell? ⟨g, 0, none⟩ = some (.int .i64 z.k) := h.cell 0
  have c1 : w9.cell? ⟨g, 1, none⟩ = some (.int .i64 z.r) := h.cell 1
  have c2 : w9.cell? ⟨g, 2, none⟩ = some (.int .i64 z.u) := h.cell 2
  have c3 : w9.cell? ⟨g, 3, none⟩ = some (.int .i64 z.mn) := h.cell 3
  have c4 : w9.cell? ⟨g, 4, none⟩ = some (.int .i64 z.mx) := h.cell 4
  have c5 : w9.cell? ⟨g, 5, none⟩ = some (.string (str z.ms)) := h.cell 5
  have c6 : w9.cell? ⟨g, 6, none⟩ = some (.string (str z.xs)) := h.cell 6
  clear h
  simp [go_sem, zv, c0, c1, c2, c3, c4, c5, c6]
theorem rres_zone {fn : Func} {tmps : Array Value} {w9 : World} {g i : Nat} {z : Zn} (hfn : fn.results = #[ResultVar.cell i 31]) (ht : tmps.getD i undef = .pointer (some ⟨g, 0, none⟩)) (h : ZAt w9 g z 31) : (results fn tmps).run Try.prog w9 = .ok (zv z) w9 := by
  have hl := rload_zone h
  have ht' : tmps[i]?.getD undef = .pointer (some ⟨g, 0, none⟩) := by simpa using ht
  simp [results, hfn, ht', asAddr, Sem.run_bind, Result.andThen, hl]
/-- .. and a number beside it. -/
theorem res_zone2 {fn : Func} {tmps : Array Value} {w9 : World} {g i j : Nat} {z : Zn} {e : Value} (hfn : fn.results = #[ResultVar.cell i 23, ResultVar.tmp j]) (ht : tmps.getD i undef = .pointer (some ⟨g, 0, none⟩)) (hj : tmps.getD j undef = e) (h : ZAt w9 g z 23) : (results fn tmps).run Try.prog w9 = .ok (.tuple #[zv z, e]) w9 := by
  have hl := load_zone h
  have ht' : tmps[i]?.getD undef = .pointer (some ⟨g, 0, none⟩) := by simpa using ht
  have hj' : tmps[j]?.getD undef = e := by simpa using hj
  simp [results, hfn, ht', hj', asAddr, Sem.run_bind, Result.andThen, hl]
/-- .. and two. -/
theorem res_zone3 {fn : Func} {tmps : Array Value} {w9 : World} {g i j k : Nat} {z : Zn} {d e : Value} (hfn : fn.results = #[ResultVar.cell i 23, ResultVar.tmp j, ResultVar.tmp k]) (ht : tmps.getD i undef = .pointer (some ⟨g, 0, none⟩)) (hj : tmps.getD j undef = d) (hk : tmps.getD k undef = e) (h : ZAt w9 g z 23) : (results fn tmps).run Try.prog w9 = .ok (.tuple #[zv z, d, e]) w9 := by
  have hl := load_zone h
  have ht' : tmps[i]?.getD undef = .pointer (some ⟨g, 0, none⟩) := by simpa using ht
  have hj' : tmps[j]?.getD undef = d := by simpa using hj
  have hk' : tmps[k]?.getD undef = e := by simpa using hk
  simp [results, hfn, ht', hj', hk', asAddr, Sem.run_bind, Result.andThen, hl]
/-- .. and a number beside it. -/
theorem rres_zone2 {fn : Func} {tmps : Array Value} {w9 : World} {g i j : Nat} {z : Zn} {e : Value} (hfn : fn.results = #[ResultVar.cell i 31, ResultVar.tmp j]) (ht : tmps.getD i undef = .pointer (some ⟨g, 0, none⟩)) (hj : tmps.getD j undef = e) (h : ZAt w9 g z 31) : (results fn tmps).run Try.prog w9 = .ok (.tuple #[zv z, e]) w9 := by
  have hl := rload_zone h
  have ht' : tmps[i]?.getD undef = .pointer (some ⟨g, 0, none⟩) := by simpa using ht
  have hj' : tmps[j]?.getD undef = e := by simpa using hj
  simp [results, hfn, ht', hj', asAddr, Sem.run_bind, Result.andThen, hl]
/-- .. and two. -/
theorem rres_zone3 {fn : Func} {tmps : Array Value} {w9 : World} {g i j k : Nat} {z : Zn} {d e : Value} (hfn : fn.results = #[ResultVar.cell i 31, ResultVar.tmp j, ResultVar.tmp k]) (ht : tmps.getD i undef = .pointer (some ⟨g, 0, none⟩)) (hj : tmps.getD j undef = d) (hk : tmps.getD k undef = e) (h : ZAt w9 g z 31) : (results fn tmps).run Try.prog w9 = .ok (.tuple #[zv z, d, e]) w9 := by
  have hl := rload_zone h
  have ht' : tmps[i]?.getD undef = .pointer (some ⟨g, 0, none⟩) := by simpa using ht
  have hj' : tmps[j]?.getD undef = d := by simpa using hj
  have hk' : tmps[k]?.getD undef = e := by simpa using hk
  simp [results, hfn, ht', hj', hk', asAddr, Sem.run_bind, Result.andThen, hl]
end Go.Proofs.Ytnfbmffafclaaaa
