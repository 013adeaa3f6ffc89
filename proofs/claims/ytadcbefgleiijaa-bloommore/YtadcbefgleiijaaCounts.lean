/-
  Package bloom's countUnlike, over the program: how many unlike texts there are.
-/
import Derived.Test.YtadcbefgleiijaaUqs
import Derived.Test.YtadcbefgleiijaaShelf
import Derived.Test.YtadcbefgleiijaaStrs
import Derived.Sort.OwnSorted
import Derived.Sort.Grow
import Derived.Lib.OwnBridge
namespace Go.Proofs.Ytadcbefgleiijaa
open Go.RowKit Go.Shelf
set_option linter.unusedVariables false
set_option linter.unusedSimpArgs false
theorem encStr_st (s : List UInt8) : encStr s = st s := rfl
/-- slices.Clone of texts: a list of its own. -/
def Cloned (w : World) (ss : List (List UInt8)) (e : Ending) (w' : World) : Prop := ∃ v', e = .returned v' ∧ w'.ownsRow w.heap.size 9 1 v' ss.length (ss.map encStr) ∧ v' ≠ .slice none 0 0 ∧ Below w.heap.size w w'
theorem clone_is (a : Addr) (n cap : Nat) (l : List (List UInt8)) (w : World) (hn : n = l.length) (hB : Rd st w (some a) cap l) (hl : l.length ≤ 500) :
    Calls Try.prog 35 #[.slice (some a) n cap] w (Cloned w l) := by
  subst hn
  by_cases h0 : l = []
  · subst h0
    exact (Try.slices_Clone_string_zero a cap w).mono fun e w' h => h
  · have hpos : 0 < l.length := List.length_pos_iff.2 h0
    obtain ⟨b, off, e, _⟩ := hB.at hpos
    cases e
    refine (Try.slices_Clone_string b off l.length cap (l.map str) w (by simp) (by omega) ?_).mono ?_
    · intro j hj
      have hj' : j < l.length := by simpa using hj
      obtain ⟨b', off', e', hc⟩ := hB.at hj'
      cases e'
      rw [hc]
      simp [List.getD, List.getElem?_map, List.getElem?_eq_getElem hj']
    · rintro e w' ⟨v', he, ho, hne, hb⟩
      refine ⟨v', he, ?_, hne, hb⟩
      have e2 : ((l.map str).take l.length).map Value.string = l.map encStr := by
        rw [List.take_of_length_le (by simp), List.map_map]
        rfl
      rw [e2] at ho
      exact ho
theorem count_left {w w1 : World} {g cap n nn q : Nat} {os : Array Obj} {ss : List (List UInt8)} (hown : w1.ownsRow w.heap.size 9 1 (.slice (some ⟨g, 0, none⟩) n cap) n (ss.map encStr)) (hbel : Below w.heap.size w w1) (hbg : w.heap.size ≤ g) :
    Ex w (Sort.putRow encStr (Sort.ahead (Sort.grow (Sort.putRow encStr (Sort.ahead w1 nn) g 0 (ss.mergeSort fun x y => decide (x ≤ y)).toArray) os) q) g 0 (Lib.compact (ss.mergeSort fun x y => decide (x ≤ y)) ++ List.replicate (n - (Lib.compact (ss.mergeSort fun x y => decide (x ≤ y))).length) []).toArray) := by
  rcases hown.2 with ⟨h0, _⟩ | ⟨g', cap', cur, hv, hbase, hb, h1, h2, h3, h4⟩
  · cases h0
  cases hv
  exact Lib.below_putRow (hbel.grown (grownBy_sorted _) hbel.size (fun j hj => by cases hj; exact hbase)) hbg
set_option maxHeartbeats 2000000 in
set_option maxRecDepth 100000 in
theorem count_some (a : Addr) (n cap : Nat) (ss : List (List UInt8)) (w : World) (hn : n = ss.length) (hB : Rd st w (some a) cap ss) (hl : ss.length ≤ 500) (k : Nat) (hk : (T.bld ss).length = k) :
    Calls Try.prog 24 #[.slice (some a) n cap] w fun e w' => e = .returned (.int .i64 k) ∧ Ex w w' := by
  subst hn
  have hkl : k ≤ 500 := by rw [← hk]; exact Nat.le_trans (T.bld_len ss) hl
  have HK : Hid (Lib.compact (ss.mergeSort fun x y => decide (x ≤ y)) = T.bld ss ∧ (T.bld ss).length = k) := (⟨T.cmp_bld ss, hk⟩ : Lib.compact (ss.mergeSort fun x y => decide (x ≤ y)) = T.bld ss ∧ (T.bld ss).length = k)
  have HB : Hid (Rd st w (some a) cap ss) := hB
  clear hB hk
  go_enter Try.func24, Try.ntmps24
  go_wp2_with fail
  refine (clone_is a _ cap ss w rfl HB.out hl).mono ?_
  rintro e w1 ⟨v1, rfl, hown, hnn, hbel⟩
  obtain ⟨g, cap', rfl, hbg, hgl, hncap, hcm, hlen, hH⟩ := Lib.holds_of_ownsRow hown hnn
  have X : Hid (w1.ownsRow w.heap.size 9 1 (.slice (some ⟨g, 0, none⟩) ss.length cap') ss.length (ss.map encStr) ∧ Below w.heap.size w w1 ∧ Sort.Holds encStr w1 g 0 ss.toArray) := (⟨hown, hbel, hH⟩ : _ ∧ _ ∧ _)
  clear hown hbel hH hnn
  go_wp2_with fail
  refine (Try.slices_Sort_string g 0 cap' ss w1 X.out.2.2 hgl (by omega)).mono ?_
  rintro e w2 ⟨rfl, nn, os, hw2⟩
  have hl2 : (ss.mergeSort fun x y => decide (x ≤ y)).length = ss.length := List.length_mergeSort ss
  have hH2 : Sort.Holds encStr w2 g 0 (ss.mergeSort fun x y => decide (x ≤ y)).toArray := by
    rw [hw2]
    exact Sort.holds_grow encStr _ os g 0 _ (by simpa [Sort.putRow, Sort.mapBlock, Sort.ahead] using hgl) (Sort.holds_putRow encStr _ g 0 _ _ (Sort.holds_ahead encStr w1 nn g 0 _ X.out.2.2) (by simp))
  have hcomp := Try.slices_Compact_string g 0 cap' (ss.mergeSort fun x y => decide (x ≤ y)) w2 hH2 (by omega) (by omega)
  rw [hl2] at hcomp
  have HC : Hid _ := hcomp
  have HW2 : Hid _ := hw2
  clear hcomp hw2 hH2 hl2
  go_wp2_with fail
  refine Calls.mono HC.out ?_
  rintro e w3 ⟨rfl, q, hw3⟩
  have HX3 : Hid (Ex w w3) := (by rw [hw3, HW2.out]; exact count_left X.out.1 X.out.2.1 hbg : Ex w w3)
  rw [HK.out.1, HK.out.2]
  clear hw3
  go_wp2_with fail
  go_ret
  exact ⟨rfl, HX3.out⟩
set_option maxHeartbeats 2000000 in
theorem count_nil (w : World) :
    Calls Try.prog 24 #[.slice none 0 0] w fun e w' => e = .returned (.int .i64 0) ∧ Ex w w' := by
  go_enter Try.func24, Try.ntmps24
  go_wp2_with fail
  refine (Try.slices_Clone_string_nil 0 0 w).mono ?_
  rintro e w1 ⟨rfl, hw⟩
  have hw' := hw.symm; clear hw; subst hw'
  go_wp2_with fail
  refine (Try.slices_Sort_string_none none 0 w).mono ?_
  rintro e w1 ⟨rfl, hw⟩
  have hw' := hw.symm; clear hw; subst hw'
  go_wp2_with fail
  refine (Try.slices_Compact_string_empty none 0 w).mono ?_
  rintro e w1 ⟨rfl, hw⟩
  have hw' := hw.symm; clear hw; subst hw'
  go_wp2_with fail
  go_ret
  exact ⟨rfl, Ex.refl w⟩
theorem count_is (a : Option Addr) (n cap : Nat) (l : List (List UInt8)) (w : World) (hn : n = l.length) (hB : Rd st w a cap l) (hl : l.length ≤ 500) (k : Nat) (hk : (T.bld l).length = k) :
    Calls Try.prog 24 #[.slice a n cap] w fun e w' => e = .returned (.int .i64 k) ∧ Ex w w' := by
  cases a with
  | some a => exact count_some a n cap l w hn hB hl k hk
  | none =>
    have hc : cap = 0 := hB.2.2.1 rfl
    have h0 := hB.1
    have hl0 : l = [] := List.length_eq_zero_iff.1 (by omega)
    subst hl0
    subst hc
    subst hn
    have hk0 : k = 0 := by rw [← hk]; rfl
    subst hk0
    exact count_nil w
end Go.Proofs.Ytadcbefgleiijaa
