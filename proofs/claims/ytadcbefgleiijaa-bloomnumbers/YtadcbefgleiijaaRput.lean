/-
  The document's own put, Find, Begins, From, Rising, Fits (layer 7) over the program.
-/
import Derived.Test.YtadcbefgleiijaaOrder
import Derived.Test.YtadcbefgleiijaaStrs
import Derived.Test.YtadcbefgleiijaaRvarint
namespace Go.Proofs.Ytadcbefgleiijaa
open Go.RowKit
set_option linter.unusedVariables false

theorem Try.info9 : (Try.prog.info? 9).map (fun i => (i.zero, i.size, i.bytes)) = some (some (st []), 1, 16) := by kernel_rfl
theorem Rd.from {α : Type} {enc : α → Value} {w : World} {b off cap : Nat} {l : List α} (h : Rd enc w (some ⟨b, off, none⟩) cap l) (k : Nat) (hk : k ≤ l.length) : Rd enc w (some ⟨b, off + k, none⟩) (cap - k) (l.drop k) := by
  obtain ⟨h1, h2, h3, h4⟩ := h
  refine ⟨by simp; omega, by omega, by simp, fun i x hi => ?_⟩
  rw [List.getElem?_drop] at hi
  obtain ⟨b', off', e, hc⟩ := h4 (k + i) x hi
  simp only [Option.some.injEq, Addr.mk.injEq, and_true] at e
  obtain ⟨rfl, rfl⟩ := e
  exact ⟨b, off + k, rfl, by rw [Nat.add_assoc]; exact hc⟩
theorem Rd.none_ {α : Type} {enc : α → Value} (w : World) (a : Option Addr) : Rd enc w a 0 [] := ⟨by simp, by simp [maxLen], fun _ => rfl, fun i x hi => by simp at hi⟩
theorem st_inj (x y : List UInt8) : ((str x).toList == (str y).toList) = decide (x = y) := by
  rw [str_toList, str_toList]
  by_cases h : x = y
  · simp [h]
  · simp [h]

set_option maxRecDepth 100000 in
theorem rfind_is (a : Option Addr) (n cap : Nat) (d : List (List UInt8)) (s : List UInt8) (w : World) (hn : n = d.length) (hB : Rd st w a cap d) (r : Option Nat) (hr : T.idx s d = r) :
    Calls Try.prog 40 #[.slice a n cap, .string (str s)] w fun e w' => e = .returned (.tuple #[.int .i64 ((r.getD 0 : Nat) : Int), .bool r.isSome]) ∧ w' = w := by
  subst hn
  have HB : Hid (Rd st w a cap d) := hB
  have HR : Hid (T.idx s d = r) := hr
  have hcl := hB.1
  have hcm := hB.2.1
  unfold maxLen at hcm
  have zs := str_toList s
  clear hB hr
  go_enter Try.func40, Try.ntmps40
  go_wp2_with fail
  go_loop [6] (fun i => ∃ k : Nat, k ≤ d.length ∧ i = .int .i64 k ∧ Hid (T.idx s d = (T.idx s (d.drop k)).map (· + k))) (fun i => d.length - (intOf i).toNat)
  case atStart => exact ⟨0, by omega, rfl, (by simp : T.idx s d = (T.idx s (d.drop 0)).map (· + 0))⟩
  case round =>
    obtain ⟨k, hk, rfl, HI⟩ := hrel
    by_cases hlt : k < d.length
    · obtain ⟨b, off, rfl, hc⟩ := HB.out.at hlt
      obtain ⟨x, hx⟩ : ∃ x, x = d[k] := ⟨_, rfl⟩
      rw [← hx] at hc
      have hc' : w.cell? ⟨b, off + k, none⟩ = some (.string (str x)) := hc
      have zx := str_toList x
      have hki : (k : Int) < (d.length : Int) := by omega
      have tk : decide ((k : Int) < (d.length : Int)) = true := by simp; omega
      have hdr : d.drop k = x :: d.drop (k + 1) := by rw [List.drop_eq_getElem_cons hlt, hx]
      have hI := HI.out
      rw [hdr, T.idx] at hI
      clear hc hx hdr HI
      by_cases he : x = s
      · rw [if_pos he, HR.out] at hI
        simp at hI
        subst hI
        subst he
        clear HR
        go_wp2
        go_ret2
        exact ⟨rfl, rfl⟩
      · rw [if_neg he] at hI
        have HN : Hid (T.idx s d = (T.idx s (d.drop (k + 1))).map (· + (k + 1))) := (by rw [hI, Option.map_map]; congr 1; funext z; simp; omega : T.idx s d = (T.idx s (d.drop (k + 1))).map (· + (k + 1)))
        have hne : (x == s) = false := by simpa using he
        clear hI he
        go_wp2
        go_round
        case rel => exact ⟨k + 1, by omega, by go_num, HN⟩
        case measure => simp [intOf]; omega
    · have hI := HI.out
      rw [List.drop_eq_nil_of_le (by omega), T.idx, HR.out] at hI
      simp at hI
      subst hI
      go_wp2
      go_ret2
      exact ⟨rfl, rfl⟩

end Go.Proofs.Ytadcbefgleiijaa
