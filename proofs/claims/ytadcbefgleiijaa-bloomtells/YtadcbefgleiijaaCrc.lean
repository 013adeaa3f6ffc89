/-
  The contracts of sum's Crc and Fnv and of the document's own answers to both, over the program.
-/
import Derived.Test.YtadcbefgleiijaaXors
namespace Go.Proofs.Ytadcbefgleiijaa
open Go.RowKit
set_option linter.unusedVariables false

theorem run_at {l : List UInt8} {k : Nat} (C : Nat) (h : k < l.length) : S.run C (l.drop k) = S.run (S.byte C (M.bAt l k)) (l.drop (k + 1)) := by
  rw [List.drop_eq_getElem_cons h, S.run_cons]
  simp [M.bAt, h]

theorem str_at {s : List UInt8} {k : Nat} (h : k < (str s).size) (h2 : k < s.length) : (str s)[k].toNat = s[k].toNat := by
  show ((str s).data[k]'h).toNat = _
  simp [str]
theorem fnv_at {s : List UInt8} {k : Nat} (h : k < s.length) : S.fnv (s.take (k + 1)) = S.fnvStep (S.fnv (s.take k)) s[k] := by
  rw [List.take_succ_eq_append_getElem h, S.fnv_snoc]
theorem fnv_next {s : List UInt8} {k : Nat} (h : k < (str s).size) (h2 : k < s.length) :
    IntKind.u64.wrap (bits BinOp.xor IntKind.u64 (S.fnv (List.take k s) : Int) (IntKind.u64.wrap ((str s)[k].toNat : Int)) * 1099511628211) = ((S.fnv (s.take (k + 1)) : Nat) : Int) := by
  have hx := s[k].toNat_lt
  rw [fnv_at h2, str_at h h2, I.w64 ((s[k].toNat : Int)), Int.emod_eq_of_lt (by omega) (by omega), I.w64, I.fnv_num _ _ s[k] (S.fnv_lt _) rfl]

set_option maxRecDepth 100000 in
theorem fnv_any (s : List UInt8) (w : World) (hs : s.length ≤ 9223372036854775807) :
    Calls Try.prog 38 #[.string (str s)] w fun e w' => e = .returned (.int .u64 (S.fnv s)) ∧ w' = w := by
  have hss : (str s).size = s.length := str_size s
  obtain ⟨R, hR⟩ : ∃ R, R = S.fnv s := ⟨_, rfl⟩
  have HR : Hid (R = S.fnv s) := hR
  rw [← hR]
  clear hR
  go_enter Try.func38, Try.ntmps38
  go_wp2
  go_loop [3, 7] (fun v i => ∃ k : Nat, k ≤ s.length ∧ i = .int .i64 k ∧ v = .int .u64 (S.fnv (s.take k))) (fun _ i => s.length - (intOf i).toNat)
  case atStart => exact ⟨0, by omega, rfl, rfl⟩
  case round =>
    obtain ⟨k, hk, rfl, rfl⟩ := hrel
    by_cases hlt : k < s.length
    · go_wp2
      go_round
      case rel => exact ⟨k + 1, by omega, by go_num, I.int_num (fnv_next (by omega) hlt)⟩
      case measure => simp [intOf]; omega
    · obtain rfl : k = s.length := by omega
      go_wp2
      go_ret
      exact ⟨I.ret_int (by rw [HR.out]), rfl⟩

set_option maxRecDepth 100000 in
theorem rfnv_any (s : List UInt8) (w : World) (hs : s.length ≤ 9223372036854775807) :
    Calls Try.prog 41 #[.string (str s)] w fun e w' => e = .returned (.int .u64 (S.fnv s)) ∧ w' = w := by
  have hss : (str s).size = s.length := str_size s
  obtain ⟨R, hR⟩ : ∃ R, R = S.fnv s := ⟨_, rfl⟩
  have HR : Hid (R = S.fnv s) := hR
  rw [← hR]
  clear hR
  go_enter Try.func41, Try.ntmps41
  go_wp2
  go_loop [3, 4] (fun v i => ∃ k : Nat, k ≤ s.length ∧ i = .int .i64 k ∧ v = .int .u64 (S.fnv (s.take k))) (fun _ i => s.length - (intOf i).toNat)
  case atStart => exact ⟨0, by omega, rfl, rfl⟩
  case round =>
    obtain ⟨k, hk, rfl, rfl⟩ := hrel
    by_cases hlt : k < s.length
    · go_wp2
      go_round
      case rel => exact ⟨k + 1, by omega, by go_num, I.int_num (fnv_next (by omega) hlt)⟩
      case measure => simp [intOf]; omega
    · obtain rfl : k = s.length := by omega
      go_wp2
      go_ret
      exact ⟨I.ret_int (by rw [HR.out]), rfl⟩

end Go.Proofs.Ytadcbefgleiijaa
