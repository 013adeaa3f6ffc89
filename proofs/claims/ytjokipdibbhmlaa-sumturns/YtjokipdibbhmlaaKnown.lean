/-
  The contract of the statements' own 'known': chapter 2's runs hold. And the contracts of the sums as sentences for regions whose order is open.
-/
import Derived.Test.YtjokipdibbhmlaaCrc
import Derived.Lib.SlBytesConst
namespace Go.Proofs.Ytjokipdibbhmlaa
open Go.RowKit
set_option linter.unusedVariables false

theorem crc_is (a : Option Addr) (n cap : Nat) (l : List UInt8) (r : Nat) (w : World) (hB : Byt w a cap l) (hn : n = l.length) (hr : S.crc l = r) :
    Calls Try.prog 8 #[.slice a n cap] w fun e w' => e = .returned (.int .u32 r) ∧ w' = w := by
  subst hn; subst hr; exact crc_any a cap l w hB
theorem rcrc_is (a : Option Addr) (n cap : Nat) (l : List UInt8) (r : Nat) (w : World) (hB : Byt w a cap l) (hn : n = l.length) (hr : S.crc l = r) :
    Calls Try.prog 12 #[.slice a n cap] w fun e w' => e = .returned (.int .u32 r) ∧ w' = w := by
  subst hn; subst hr; exact rcrc_any a cap l w hB
theorem fnv_is (b : ByteArray) (s : List UInt8) (r : Nat) (w : World) (hb : b = str s) (hs : s.length ≤ 9223372036854775807) (hr : S.fnv s = r) :
    Calls Try.prog 9 #[.string b] w fun e w' => e = .returned (.int .u64 r) ∧ w' = w := by
  subst hb; subst hr; exact fnv_any s w hs
theorem rfnv_is (b : ByteArray) (s : List UInt8) (r : Nat) (w : World) (hb : b = str s) (hs : s.length ≤ 9223372036854775807) (hr : S.fnv s = r) :
    Calls Try.prog 13 #[.string b] w fun e w' => e = .returned (.int .u64 r) ∧ w' = w := by
  subst hb; subst hr; exact rfnv_any s w hs
theorem crc_known : S.crc [49, 50, 51, 52, 53, 54, 55, 56, 57] = 3808858755 := by decide +kernel
theorem crc_none : S.crc [] = 0 := by decide +kernel
theorem fnv_a : S.fnv [97] = 12638187200555641996 := by decide +kernel
theorem fnv_none : S.fnv [] = 14695981039346656037 := by decide +kernel
theorem fnv_foobar : S.fnv [102, 111, 111, 98, 97, 114] = 9625390261332436968 := by decide +kernel

/-- A slice that is laid out in a new block, with whatever mark. -/
theorem Byt.laidM (w : World) (fr : Nat × Nat) (l : List UInt8) (hl : l.length ≤ 1000) : Byt (w.alloc (.cells (cs l).toArray 5 fr)) (some ⟨w.heap.size, 0, none⟩) l.length l := by
  refine ⟨Nat.le_refl _, by simp [maxLen]; omega, by simp, fun i hi => ⟨w.heap.size, 0, rfl, ?_⟩⟩
  rw [cell_of_row _ w.heap.size (0 + i) (cs l).toArray 5 fr (heap_alloc_new w _)]
  simp [cs, M.bAt, hi]

set_option maxRecDepth 100000 in
theorem known_any (w : World) : Calls Try.prog 10 #[] w fun e w' => e = .returned (.bool true) ∧ Ex w w' := by
  have kc := fun (w : World) (C : Array Value) (n c : Nat) => Lib.run_convert_bytes_const (P := Try.prog) w 27 5 C n c Try.underlying27 Try.underlying5
  go_enter Try.func10, Try.ntmps10
  go_wp2_with fail
  refine (crc_is _ 9 9 [49, 50, 51, 52, 53, 54, 55, 56, 57] 3808858755 _ (Byt.laidM w (9, 10) [49, 50, 51, 52, 53, 54, 55, 56, 57] (by simp)) rfl crc_known).mono ?_
  rintro e w1 ⟨rfl, rfl⟩
  go_wp2_with fail
  refine (fnv_is _ [97] 12638187200555641996 _ rfl (by simp) fnv_a).mono ?_
  rintro e w1 ⟨rfl, rfl⟩
  have hb3 : Ex w (w.alloc (.cells (cs [49, 50, 51, 52, 53, 54, 55, 56, 57]).toArray 5 (9, 10))) := (Below.refl _ _).alloc (Nat.le_refl _) _
  go_wp2
  go_ret
  exact ⟨rfl, hb3⟩

theorem crc_row {w0 : World} {l : List UInt8} {v : Value} (w : World) (hC : Ex w0 w) (hv : IsByt l v w) (r : Nat) (hr : S.crc l = r) :
    Calls Try.prog 8 #[v] w (fun e w' => ∃ v', e = .returned v' ∧ Rg.Spec.ok (.inl (.int .u32 r)) v' w' ∧ Ex w w' ∧ Ex w0 w') := by
  obtain ⟨a, cap, rfl, hB⟩ := hv
  refine (crc_is a _ cap l r w hB rfl hr).mono ?_
  rintro e w2 ⟨rfl, rfl⟩
  exact ⟨_, rfl, rfl, Ex.refl _, hC⟩
theorem rcrc_row {w0 : World} {l : List UInt8} {v : Value} (w : World) (hC : Ex w0 w) (hv : IsByt l v w) (r : Nat) (hr : S.crc l = r) :
    Calls Try.prog 12 #[v] w (fun e w' => ∃ v', e = .returned v' ∧ Rg.Spec.ok (.inl (.int .u32 r)) v' w' ∧ Ex w w' ∧ Ex w0 w') := by
  obtain ⟨a, cap, rfl, hB⟩ := hv
  refine (rcrc_is a _ cap l r w hB rfl hr).mono ?_
  rintro e w2 ⟨rfl, rfl⟩
  exact ⟨_, rfl, rfl, Ex.refl _, hC⟩
theorem fnv_row {w0 : World} (s : List UInt8) (w : World) (hC : Ex w0 w) (r : Nat) (hs : s.length ≤ 9223372036854775807) (hr : S.fnv s = r) :
    Calls Try.prog 9 #[.string (str s)] w (fun e w' => ∃ v', e = .returned v' ∧ Rg.Spec.ok (.inl (.int .u64 r)) v' w' ∧ Ex w w' ∧ Ex w0 w') := by
  refine (fnv_is _ s r w rfl hs hr).mono ?_
  rintro e w2 ⟨rfl, rfl⟩
  exact ⟨_, rfl, rfl, Ex.refl _, hC⟩
theorem rfnv_row {w0 : World} (s : List UInt8) (w : World) (hC : Ex w0 w) (r : Nat) (hs : s.length ≤ 9223372036854775807) (hr : S.fnv s = r) :
    Calls Try.prog 13 #[.string (str s)] w (fun e w' => ∃ v', e = .returned v' ∧ Rg.Spec.ok (.inl (.int .u64 r)) v' w' ∧ Ex w w' ∧ Ex w0 w') := by
  refine (rfnv_is _ s r w rfl hs hr).mono ?_
  rintro e w2 ⟨rfl, rfl⟩
  exact ⟨_, rfl, rfl, Ex.refl _, hC⟩
theorem known_row {w0 : World} (w : World) (hC : Ex w0 w) :
    Calls Try.prog 10 #[] w (fun e w' => ∃ v', e = .returned v' ∧ Rg.Spec.ok (.inl (.bool true)) v' w' ∧ Ex w w' ∧ Ex w0 w') := by
  refine (known_any w).mono ?_
  rintro e w2 ⟨rfl, hb⟩
  exact ⟨_, rfl, rfl, hb, hC.trans hb⟩
end Go.Proofs.Ytjokipdibbhmlaa
