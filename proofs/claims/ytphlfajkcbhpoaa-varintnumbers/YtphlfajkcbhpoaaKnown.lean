/-
  The contract of the statements' own 'known': some of chapter 1's runs hold.
-/
import Derived.Test.YtphlfajkcbhpoaaPut
import Derived.Laws.IdiomStrings
import Derived.Lib.Strings
namespace Go.Proofs.Ytphlfajkcbhpoaa
open Go.RowKit
set_option linter.unusedVariables false

/-- Bytes as a string. -/
def str (l : List UInt8) : ByteArray := ⟨l.toArray⟩

theorem str_toList (l : List UInt8) : (str l).toList = l := by rw [Lib.toList_data]; simp [str]
theorem run_str {w : World} {a : Option Addr} {n cap : Nat} {l : List UInt8} (h : Byt w a cap l) (hn : n = l.length) : (convert 22 9 (.slice a n cap)).run Try.prog w = .ok (.string (str l)) w := by
  subst hn
  obtain ⟨h1, h2, h3, h4⟩ := h
  cases a with
  | none =>
    have hl : l = [] := List.eq_nil_of_length_eq_zero (by have := h3 rfl; omega)
    subst hl
    rw [run_convert_bytes_string w 22 9 5 none _ cap Try.underlying22 Try.underlying5 Try.underlying9]
    rfl
  | some x =>
    refine run_convert_bytes_back w 22 9 5 x cap l Try.underlying22 Try.underlying5 Try.underlying9 (fun j hj => ?_)
    obtain ⟨b, off, hx, hc⟩ := h4 j hj
    simp at hx
    subst hx
    rw [add_none, hc]
    simp [M.bAt, hj]

theorem get_is (a : Option Addr) (n cap : Nat) (l : List UInt8) (p : Int) (w : World) (N k e0 : Nat) (hr : M.get l p = (N, k, e0)) (hB : Byt w a cap l) (hn : n = l.length) :
    Calls Try.prog 9 #[.slice a n cap, .int .i64 p] w fun e w' => e = .returned (.tuple #[.int .u64 N, .int .i64 k, .int .i64 e0]) ∧ w' = w := by
  subst hn
  have h := get_any a cap l p w hB
  rw [hr] at h
  exact h
theorem put_is (a : Option Addr) (n cap : Nat) (l r : List UInt8) (m : Int) (k : Nat) (w : World) (hm : m = k) (hr : l ++ M.digs k = r) (hB : Byt w a cap l) (hn : n = l.length) (hk : k < 18446744073709551616) (hlen : l.length + 10 ≤ 140737488355328) :
    Calls Try.prog 17 #[.slice a n cap, .int .u64 m] w fun e w' => ∃ v', e = .returned v' ∧ Own w' w.heap.size v' r ∧ Below w.heap.size w w' := by
  subst hn; subst hr; subst hm
  exact put_any a cap l k w hB hk hlen
theorem zig_is (n m : Int) (w : World) (h1 : -9223372036854775808 ≤ n) (h2 : n ≤ 9223372036854775807) (hm : M.zig n = m) :
    Calls Try.prog 12 #[.int .i64 n] w fun e w' => e = .returned (.int .u64 m) ∧ w' = w := by subst hm; exact zig_any n w h1 h2
theorem zag_is (n m : Int) (w : World) (h1 : 0 ≤ n) (h2 : n ≤ 18446744073709551615) (hm : M.zag n = m) :
    Calls Try.prog 13 #[.int .u64 n] w fun e w' => e = .returned (.int .i64 m) ∧ w' = w := by subst hm; exact zag_any n w h1 h2

/-- A nil slice holds no bytes. -/
theorem Byt.nil (w : World) : Byt w none 0 [] := ⟨by simp, by simp [maxLen], fun _ => rfl, fun i hi => by simp at hi⟩
/-- A slice that is laid out in a new block. -/
theorem Byt.laid (w : World) (l : List UInt8) (hl : l.length ≤ 1000) : Byt (w.alloc (.cells (cs l).toArray 5)) (some ⟨w.heap.size, 0, none⟩) l.length l := by
  refine ⟨Nat.le_refl _, by simp [maxLen]; omega, by simp, fun i hi => ⟨w.heap.size, 0, rfl, ?_⟩⟩
  rw [cell_of_row _ w.heap.size (0 + i) (cs l).toArray 5 (0, 0) (heap_alloc_new w _)]
  simp [cs, M.bAt, hi]

set_option maxRecDepth 100000 in
theorem known_any (w : World) : Calls Try.prog 14 #[] w fun e w' => e = .returned (.bool true) ∧ Below w.heap.size w w' := by
  go_enter Try.func14, Try.ntmps14
  go_wp2_with fail
  refine (get_is _ 2 2 [128, 0] 0 _ 0 0 12 (by decide) (Byt.laid w [128, 0] (by simp)) rfl).mono ?_
  rintro e w1 ⟨rfl, rfl⟩
  go_wp2_with fail
  refine (put_is none 0 0 [] [172, 2] _ 300 _ rfl (by decide) (Byt.nil _) rfl (by decide) (by decide)).mono ?_
  rintro e w2 ⟨v2, rfl, ho2, hb2⟩
  obtain ⟨a2, cap2, rfl, hB2⟩ := ho2.byt
  have hrun := run_str (n := 2) hB2 rfl
  have hb3 : Below w.heap.size w w2 := ((Below.refl _ _).alloc (Nat.le_refl _) _).trans (hb2.mono (by simp))
  clear ho2 hb2 hB2
  have hst := str_toList [172, 2]
  go_wp2_with fail
  refine (zig_is _ 1 _ (by omega) (by omega) (by decide)).mono ?_
  rintro e w3 ⟨rfl, rfl⟩
  go_wp2_with fail
  refine (zag_is _ (-1) _ (by omega) (by omega) (by decide)).mono ?_
  rintro e w3 ⟨rfl, rfl⟩
  go_wp2
  go_ret
  exact ⟨rfl, hb3⟩
end Go.Proofs.Ytphlfajkcbhpoaa
