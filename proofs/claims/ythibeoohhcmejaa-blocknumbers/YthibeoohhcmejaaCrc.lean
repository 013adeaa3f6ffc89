/-
  The contracts of sum's Crc and Fnv and of the document's own answers to both, over the program.
-/
import Derived.Test.YthibeoohhcmejaaXors
namespace Go.Proofs.Ythibeoohhcmejaa
open Go.RowKit
set_option linter.unusedVariables false

set_option maxRecDepth 100000 in
theorem pass_any (c : Nat) (w : World) (hc : c < 4294967296) :
    Calls Try.prog 30 #[.int .u32 c] w fun e w' => e = .returned (.int .u32 (S.steps 8 c)) ∧ w' = w := by
  obtain ⟨R, hR⟩ : ∃ R, R = S.steps 8 c := ⟨_, rfl⟩
  have HR : Hid (R = S.steps 8 c) := hR
  rw [← hR]
  clear hR
  go_enter Try.func30, Try.ntmps30
  go_wp2
  go_loop [0, 4] (fun v i => ∃ k C : Nat, k ≤ 8 ∧ C < 4294967296 ∧ i = .int .i64 k ∧ v = .int .u32 C ∧ R = S.steps (8 - k) C) (fun _ i => 8 - (intOf i).toNat)
  case atStart => exact ⟨0, c, by omega, hc, rfl, rfl, HR.out⟩
  case round =>
    obtain ⟨k, C, hk, hC, rfl, rfl, hs⟩ := hrel
    have HS : Hid (R = S.steps (8 - k) C) := hs
    clear hs
    by_cases hlt : k < 8
    · have hnext : R = S.steps (8 - (k + 1)) (S.step C) := by
        rw [HS.out, show 8 - k = (8 - (k + 1)) + 1 from by omega]; rfl
      have HN : Hid (R = S.steps (8 - (k + 1)) (S.step C)) := hnext
      have hsl := S.step_lt hC
      clear hnext
      have hand := I.and1w (C : Int) (by omega) (by omega)
      by_cases ho : C % 2 = 1
      · have h1 : bits .and .u32 (C : Int) 1 = 1 := by rw [hand]; omega
        clear hand
        have hst : S.step C = (C / 2) ^^^ S.poly := by unfold S.step; rw [if_pos ho]
        go_wp2
        go_round
        case rel =>
          refine ⟨k + 1, S.step C, by omega, hsl, by go_num, I.int_num ?_, HN.out⟩
          rw [hst]
          exact I.xor32 _ _ (C / 2) S.poly (by omega) rfl (by omega) (by decide)
        case measure => simp [intOf]; omega
      · have h1 : bits .and .u32 (C : Int) 1 = 0 := by rw [hand]; omega
        clear hand
        have hst : S.step C = C / 2 := by unfold S.step; rw [if_neg ho]
        go_wp2
        go_round
        case rel => exact ⟨k + 1, S.step C, by omega, hsl, by go_num, I.int_num (by rw [hst]; omega), HN.out⟩
        case measure => simp [intOf]; omega
    · obtain rfl : k = 8 := by omega
      have hf : R = C := HS.out
      subst hf
      go_wp2
      go_ret
      exact ⟨rfl, rfl⟩
theorem pass_is (X : Int) (c r : Nat) (w : World) (hX : X = c) (hr : S.steps 8 c = r) (hc : c < 4294967296) :
    Calls Try.prog 30 #[.int .u32 X] w fun e w' => e = .returned (.int .u32 r) ∧ w' = w := by
  subst hX; subst hr; exact pass_any c w hc
theorem run_at {l : List UInt8} {k : Nat} (C : Nat) (h : k < l.length) : S.run C (l.drop k) = S.run (S.byte C (M.bAt l k)) (l.drop (k + 1)) := by
  rw [List.drop_eq_getElem_cons h, S.run_cons]
  simp [M.bAt, h]

set_option maxRecDepth 100000 in
theorem crc_any (a : Option Addr) (cap : Nat) (l : List UInt8) (w : World) (hB : Byt w a cap l) :
    Calls Try.prog 23 #[.slice a l.length cap] w fun e w' => e = .returned (.int .u32 (S.crc l)) ∧ w' = w := by
  obtain ⟨hlc, hcm, hnone, hcell⟩ := hB
  unfold maxLen at hcm
  have hlen : l.length ≤ 9223372036854775807 := by omega
  obtain ⟨R, hR⟩ : ∃ R, R = S.run 4294967295 l := ⟨_, rfl⟩
  have HR : Hid (R = S.run 4294967295 l) := hR
  have hcrc : S.crc l = R ^^^ 4294967295 := by rw [hR]; rfl
  rw [hcrc]
  clear hR hcrc
  go_enter Try.func23, Try.ntmps23
  go_wp2
  go_loop [3, 8] (fun v i => ∃ k C : Nat, k ≤ l.length ∧ C < 4294967296 ∧ i = .int .i64 k ∧ v = .int .u32 C ∧ R = S.run C (l.drop k)) (fun _ i => l.length - (intOf i).toNat)
  case atStart => exact ⟨0, 4294967295, by omega, by decide, rfl, rfl, HR.out⟩
  case round =>
    obtain ⟨k, C, hk, hC, rfl, rfl, hs⟩ := hrel
    have HS : Hid (R = S.run C (l.drop k)) := hs
    clear hs
    by_cases hlt : k < l.length
    · obtain ⟨b, off, rfl, hc⟩ := hcell k hlt
      have hb8 := M.bAt_lt l k
      have hnext : R = S.run (S.byte C (M.bAt l k)) (l.drop (k + 1)) := by rw [HS.out, run_at C hlt]
      have HN : Hid (R = S.run (S.byte C (M.bAt l k)) (l.drop (k + 1))) := hnext
      have hbl : S.byte C (M.bAt l k) < 4294967296 := S.byte_lt hC hb8
      have hx := I.xor32 (C : Int) (M.bAt l k : Int) C (M.bAt l k) rfl rfl hC (by omega)
      have HX : Hid (bits .xor .u32 (C : Int) (M.bAt l k : Int) = ((C ^^^ M.bAt l k : Nat) : Int)) := hx
      clear hnext hx
      go_wp2_with (go_at_call 30; refine (pass_is _ (C ^^^ M.bAt l k) (S.byte C (M.bAt l k)) _ ?e1 rfl (S.xlt hC (by omega))).mono ?_; rotate_left; rintro e w' ⟨rfl, rfl⟩)
      case e1 => exact HX.out
      go_round
      case rel => exact ⟨k + 1, S.byte C (M.bAt l k), by omega, hbl, by go_num, rfl, HN.out⟩
      case measure => simp [intOf]; omega
    · obtain rfl : k = l.length := by omega
      have hf : R = C := by rw [HS.out, List.drop_length, S.run_nil]
      subst hf
      have hx := I.xor32 (R : Int) 4294967295 R 4294967295 rfl rfl hC (by decide)
      have HX : Hid (bits .xor .u32 (R : Int) 4294967295 = ((R ^^^ 4294967295 : Nat) : Int)) := hx
      clear hx
      go_wp2
      go_ret
      exact ⟨I.ret_int HX.out, rfl⟩

theorem str_at {s : List UInt8} {k : Nat} (h : k < (str s).size) (h2 : k < s.length) : (str s)[k].toNat = s[k].toNat := by
  show ((str s).data[k]'h).toNat = _
  simp [str]
theorem fnv_at {s : List UInt8} {k : Nat} (h : k < s.length) : S.fnv (s.take (k + 1)) = S.fnvStep (S.fnv (s.take k)) s[k] := by
  rw [List.take_succ_eq_append_getElem h, S.fnv_snoc]
theorem fnv_next {s : List UInt8} {k : Nat} (h : k < (str s).size) (h2 : k < s.length) :
    IntKind.u64.wrap (bits BinOp.xor IntKind.u64 (S.fnv (List.take k s) : Int) (IntKind.u64.wrap ((str s)[k].toNat : Int)) * 1099511628211) = ((S.fnv (s.take (k + 1)) : Nat) : Int) := by
  have hx := s[k].toNat_lt
  rw [fnv_at h2, str_at h h2, I.w64 ((s[k].toNat : Int)), Int.emod_eq_of_lt (by omega) (by omega), I.w64, I.fnv_num _ _ s[k] (S.fnv_lt _) rfl]

set_option maxRecDepth 100000 in
/-- The document's own Crc. -/
theorem rcrc_any (a : Option Addr) (cap : Nat) (l : List UInt8) (w : World) (hB : Byt w a cap l) :
    Calls Try.prog 27 #[.slice a l.length cap] w fun e w' => e = .returned (.int .u32 (S.crc l)) ∧ w' = w := by
  obtain ⟨hlc, hcm, hnone, hcell⟩ := hB
  unfold maxLen at hcm
  have hlen : l.length ≤ 9223372036854775807 := by omega
  obtain ⟨R, hR⟩ : ∃ R, R = S.run 4294967295 l := ⟨_, rfl⟩
  have HR : Hid (R = S.run 4294967295 l) := hR
  have hcrc : S.crc l = R ^^^ 4294967295 := by rw [hR]; rfl
  rw [hcrc]
  clear hR hcrc
  go_enter Try.func27, Try.ntmps27
  go_wp2
  go_loop [3, 4] (fun v i => ∃ k C : Nat, k ≤ l.length ∧ C < 4294967296 ∧ i = .int .i64 k ∧ v = .int .u32 C ∧ R = S.run C (l.drop k)) (fun _ i => l.length - (intOf i).toNat)
  case atStart => exact ⟨0, 4294967295, by omega, by decide, rfl, rfl, HR.out⟩
  case round =>
    obtain ⟨k, C, hk, hC, rfl, rfl, hs⟩ := hrel
    have HS : Hid (R = S.run C (l.drop k)) := hs
    clear hs
    by_cases hlt : k < l.length
    · obtain ⟨b, off, rfl, hc⟩ := hcell k hlt
      have hb8 := M.bAt_lt l k
      have hnext : R = S.run (S.byte C (M.bAt l k)) (l.drop (k + 1)) := by rw [HS.out, run_at C hlt]
      have HN : Hid (R = S.run (S.byte C (M.bAt l k)) (l.drop (k + 1))) := hnext
      have hbl : S.byte C (M.bAt l k) < 4294967296 := S.byte_lt hC hb8
      have hx := I.xor32 (C : Int) (M.bAt l k : Int) C (M.bAt l k) rfl rfl hC (by omega)
      have HX : Hid (bits .xor .u32 (C : Int) (M.bAt l k : Int) = ((C ^^^ M.bAt l k : Nat) : Int)) := hx
      have hxl := S.xlt (a := C) (b := M.bAt l k) hC (by omega)
      obtain ⟨D, hD⟩ : ∃ D, D = S.byte C (M.bAt l k) := ⟨_, rfl⟩
      have HD : Hid (D = S.steps 8 (C ^^^ M.bAt l k)) := hD
      rw [← hD] at hbl
      have HN2 : Hid (R = S.run D (l.drop (k + 1))) := (by rw [hD]; exact HN.out : R = S.run D (l.drop (k + 1)))
      clear hnext hx hD HN
      go_wp2
      go_loop [3, 5] (fun v i => ∃ j E : Nat, j ≤ 8 ∧ E < 4294967296 ∧ i = .int .i64 j ∧ v = .int .u32 E ∧ D = S.steps (8 - j) E) (fun _ i => 8 - (intOf i).toNat)
      case atStart => exact ⟨0, C ^^^ M.bAt l k, by omega, hxl, rfl, I.int_num HX.out, HD.out⟩
      case round =>
        obtain ⟨j, E, hj, hE, rfl, rfl, hs⟩ := hrel
        have HS2 : Hid (D = S.steps (8 - j) E) := hs
        clear hs
        by_cases hjl : j < 8
        · have hnext : D = S.steps (8 - (j + 1)) (S.step E) := by
            rw [HS2.out, show 8 - j = (8 - (j + 1)) + 1 from by omega]; rfl
          have HN3 : Hid (D = S.steps (8 - (j + 1)) (S.step E)) := hnext
          have hsl := S.step_lt hE
          clear hnext
          have hand := I.and1w (E : Int) (by omega) (by omega)
          by_cases ho : E % 2 = 1
          · have h1 : bits .and .u32 (E : Int) 1 = 1 := by rw [hand]; omega
            clear hand
            have hst : S.step E = (E / 2) ^^^ S.poly := by unfold S.step; rw [if_pos ho]
            have HT : Hid (S.step E = (E / 2) ^^^ S.poly) := hst
            clear hst
            go_wp2
            go_round
            case rel =>
              refine ⟨j + 1, S.step E, by omega, hsl, by go_num, I.int_num ?_, HN3.out⟩
              rw [HT.out]
              exact I.xor32 _ _ (E / 2) S.poly (by omega) rfl (by omega) (by decide)
            case measure => simp [intOf]; omega
          · have h1 : bits .and .u32 (E : Int) 1 = 0 := by rw [hand]; omega
            clear hand
            have hst : S.step E = E / 2 := by unfold S.step; rw [if_neg ho]
            have HT : Hid (S.step E = E / 2) := hst
            clear hst
            go_wp2
            go_round
            case rel => exact ⟨j + 1, S.step E, by omega, hsl, by go_num, I.int_num (by rw [HT.out]; omega), HN3.out⟩
            case measure => simp [intOf]; omega
        · obtain rfl : j = 8 := by omega
          have hf : D = E := HS2.out
          subst hf
          go_wp2
          go_round
          case rel => exact ⟨k + 1, D, by omega, hbl, by go_num, rfl, HN2.out⟩
          case measure => simp [intOf]; omega
    · obtain rfl : k = l.length := by omega
      have hf : R = C := by rw [HS.out, List.drop_length, S.run_nil]
      subst hf
      have hx := I.xor32 (R : Int) 4294967295 R 4294967295 rfl rfl hC (by decide)
      have HX : Hid (bits .xor .u32 (R : Int) 4294967295 = ((R ^^^ 4294967295 : Nat) : Int)) := hx
      clear hx
      go_wp2
      go_ret
      exact ⟨I.ret_int HX.out, rfl⟩
end Go.Proofs.Ythibeoohhcmejaa
