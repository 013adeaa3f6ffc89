/-
  Package bits: Pack.
-/
import Derived.Test.YtkhbkifofkjjnaaWide
namespace Go.Proofs.Ytkhbkifofkjjnaa
open Go.RowKit
set_option linter.unusedVariables false

theorem row_nobit {w : World} {g q : Nat} {D : Nat} {l : List Nat} (h : RowAt n8 5 w g (PB D l q)) (hq : q / 8 < (PB D l q).length) (hb : B.bitW D l q = false) :
    RowAt n8 5 (w.setCell ⟨g, q / 8, none⟩ (.int .u8 (bits .or .u8 (M.bAt (PB D l q) (q / 8) : Int) 0))) g (PB D l (q + 1)) := by
  have ho := M.bAt_lt (PB D l q) (q / 8)
  have e : bits .or .u8 (M.bAt (PB D l q) (q / 8) : Int) 0 = (M.bAt (PB D l q) (q / 8) : Int) := by
    have := (bits_nat .u8 8 (by decide) wraps_u8 (M.bAt (PB D l q) (q / 8)) 0 (by omega) (by omega)).2
    simpa using this
  rw [e, PB_same hb]
  have := h.set (k := q / 8) (v := .int .u8 (M.bAt (PB D l q) (q / 8) : Int)) ((PB D l q)[q / 8]'hq) (by simp [M.bAt, hq])
  rw [List.set_getElem_self] at this
  exact this

set_option maxRecDepth 100000 in
set_option maxHeartbeats 2000000 in
theorem pack_main (a : Option Addr) (cap : Nat) (l : List Nat) (D : Nat) (w : World) (hB : Rd n64 w a cap l) (h64 : ∀ x ∈ l, x < 18446744073709551616) (hl : l.length ≤ 2097152) (hD : D ≤ 64) (hw : B.width l ≤ D) :
    Calls Try.prog 57 #[.slice a l.length cap, .int .i64 D] w fun e w' => ∃ v, e = .returned (.tuple #[v, .int .i64 0]) ∧ IsByt (B.pack D l) v w' ∧ Fresh w.heap.size v ∧ Ex w w' := by
  have hlc := hB.1
  have HB : Hid (Rd n64 w a cap l) := hB
  have H64 : Hid (∀ x ∈ l, x < 18446744073709551616) := h64
  clear hB h64
  have T1 : Hid (decide (0 ≤ (D : Int) ∧ (D : Int) ≤ 64) = true) := (by simp; omega : decide (0 ≤ (D : Int) ∧ (D : Int) ≤ 64) = true)
  have t3 : decide ((D : Int) < (B.width l : Int)) = false := by simp; omega
  obtain ⟨S, hS⟩ : ∃ S, S = l.length * D := ⟨_, rfl⟩
  have hSm : S ≤ 2097152 * 64 := by rw [hS]; exact Nat.mul_le_mul hl hD
  have hSi : (l.length : Int) * (D : Int) = (S : Int) := by rw [hS]; simp
  obtain ⟨Z, hZ⟩ : ∃ Z, Z = B.size l.length D := ⟨_, rfl⟩
  have hZ8 : (S + 7) / 8 = Z := by rw [hZ, hS]; rfl
  have HZ8 : Hid ((S + 7) / 8 = Z) := hZ8
  have hz1 : 8 * Z ≤ S + 7 := by omega
  have hz2 : S + 7 < 8 * Z + 8 := by omega
  clear hZ8
  have HS : Hid (S = l.length * D) := hS
  have HZ : Hid (Z = B.size l.length D) := hZ
  clear hS hZ
  go_enter Try.func57, Try.ntmps57
  go_wp2_with fail
  refine (isWidth_is _ _ true T1.out).mono ?_
  rintro e wq ⟨rfl, hw'⟩
  have hw'' := hw'.symm
  clear hw'
  subst hw''
  go_wp2_with fail
  refine (width_any a cap l _ HB.out H64.out).mono ?_
  rintro e wq ⟨rfl, hw'⟩
  have hw'' := hw'.symm
  clear hw'
  subst hw''
  go_wp2_with fail
  refine (bytesOf_is _ S _ rfl (by omega) Z HZ8.out).mono ?_
  rintro e wq ⟨rfl, hw'⟩
  have hw'' := hw'.symm
  clear hw'
  subst hw''
  go_wp2_with (at_make; refine wpList_make_row (enc := n8) rfl _ _ 29 5 rfl 0 1 Try.underlying29 rfl Try.info5 _ _ Z rfl rfl (by omega) (by omega) (by omega) (by omega) ?_; intro w1 hr1 hb1)
  have hrz : RowAt n8 5 w1 w.heap.size (PB D l 0) := by rw [PB_start, ← HZ.out]; exact hr1
  have HRZ : Hid (RowAt n8 5 w1 w.heap.size (PB D l 0)) := hrz
  clear hr1 hrz
  go_loopw [7, 27] (fun v i wr => ∃ k m : Nat, k ≤ l.length ∧ i = .int .i64 k ∧ v = .int .i64 m ∧ Hid (m = k * D) ∧ Hid (RowAt n8 5 wr w.heap.size (PB D l m)) ∧ Hid (Below w.heap.size w wr)) (fun _ i _ => l.length - (intOf i).toNat)
  case atStart => exact ⟨0, 0, by omega, rfl, rfl, (by omega : 0 = 0 * D), HRZ, hb1⟩
  case round =>
    obtain ⟨k, m, hk, rfl, rfl, HM, HRo, HBl⟩ := hrel
    clear HRZ hb1
    by_cases hlt : k < l.length
    · obtain ⟨b, off, rfl, hc⟩ := HB.out.at hlt
      have hx64 := H64.out l[k] (List.getElem_mem hlt)
      have hbit : ∀ j, j < D → B.bitW D l (k * D + j) = l[k].testBit j := fun j hj => by
        unfold B.bitW
        rw [B.place_div hj, B.place_mod hj]
        simp [hlt]
      obtain ⟨x, hx⟩ : ∃ x, x = l[k] := ⟨_, rfl⟩
      rw [← hx] at hc hx64 hbit
      have hq := World.block_lt_of_cell? w _ hc
      have hcx : wr.cell? ⟨b, off + k, none⟩ = some (.int .u64 (x : Int)) := by
        rw [HBl.out.cell (p := ⟨b, off + k, none⟩) hq]; exact hc
      have hpl : ∀ j, j < D → k * D + j < l.length * D := fun j hj => B.place_lt hlt hj
      rw [← HS.out] at hpl
      rw [← HM.out] at hpl hbit
      have HBit : Hid (∀ j, j < D → B.bitW D l (m + j) = x.testBit j) := hbit
      have HPl : Hid (∀ j, j < D → m + j < S) := hpl
      have hnext : (k + 1) * D = m + D := by rw [HM.out, Nat.add_mul]; omega
      have HNx : Hid ((k + 1) * D = m + D) := hnext
      have hms : m ≤ S := by rw [HM.out, HS.out]; exact Nat.mul_le_mul_right D hk
      clear hc hx hbit hpl hnext
      have hki : (k : Int) < (l.length : Int) := by omega
      go_wp2
      go_loopw [7, 9, 32] (fun v y i wr => ∃ j q Y : Nat, j ≤ D ∧ i = .int .i64 j ∧ v = .int .i64 q ∧ y = .int .u64 Y ∧ Y < 18446744073709551616 ∧ Hid (q = m + j) ∧ Hid (Y = x / 2 ^ j) ∧ Hid (RowAt n8 5 wr w.heap.size (PB D l q)) ∧ Hid (Below w.heap.size w wr)) (fun _ _ i _ => D - (intOf i).toNat)
      case atStart => exact ⟨0, m, x, by omega, rfl, rfl, rfl, hx64, (by omega : m = m + 0), (by simp : x = x / 2 ^ 0), HRo, HBl⟩
      case round =>
        obtain ⟨j, q, Y, hj, rfl, rfl, rfl, hY64, HQ, HY, HRj, HBj⟩ := hrel
        clear HRo HBl hcx
        by_cases hjl : j < D
        · have hpq := HPl.out j hjl
          rw [← HQ.out] at hpq
          have hbw := HBit.out j hjl
          rw [← HQ.out] at hbw
          have hYi : (x : Int) / 2 ^ j = (Y : Int) := by rw [HY.out]; simp
          have HY2 : Hid (Y / 2 = x / 2 ^ (j + 1)) := (by rw [HY.out, Nat.pow_succ, Nat.div_div_eq_div_mul] : Y / 2 = x / 2 ^ (j + 1))
          have HQ2 : Hid (q + 1 = m + (j + 1)) := (by have := HQ.out; omega : q + 1 = m + (j + 1))
          have hqz : q / 8 < (PB D l q).length := by rw [PB_len, ← HZ.out]; omega
          have hcb : wr.cell? ⟨w.heap.size, q / 8, none⟩ = some (.int .u8 (M.bAt (PB D l q) (q / 8) : Int)) := by
            rw [HRj.out.cell hqz]; simp [M.bAt, hqz]
          have hfb : wr.frozen? ⟨w.heap.size, q / 8, none⟩ = false := HRj.out.frozen _
          have hii : (q : Int) / 8 < (Z : Int) := by omega
          cases hb : x.testBit j
          · have hand := bit_none hx64 hb
            rw [hYi] at hand
            have hnew := row_nobit HRj.out hqz (by rw [hbw]; exact hb)
            have HNew : Hid (RowAt n8 5 (wr.setCell ⟨w.heap.size, q / 8, none⟩ (.int .u8 (bits .or .u8 (M.bAt (PB D l q) (q / 8) : Int) 0))) w.heap.size (PB D l (q + 1))) := hnew
            clear hnew hb hbw hYi hqz
            go_wp2_with fail
            go_big_region
            go_wp2
            go_roundw
            case rel => exact ⟨j + 1, q + 1, Y / 2, by omega, by go_num, by go_num, by go_num, by omega, HQ2, HY2, HNew.out, (HBj.out.setCell (p := ⟨w.heap.size, q / 8, none⟩) (Nat.le_refl _) _).drew⟩
            case measure => simp [intOf]; omega
          · have hand := bit_one hx64 hb
            rw [hYi] at hand
            have hpD : q < l.length * D := by rw [← HS.out]; exact hpq
            have hnew := row_bit HRj.out hpD (by rw [hbw]; exact hb)
            have HNew : Hid (RowAt n8 5 (wr.setCell ⟨w.heap.size, q / 8, none⟩ (.int .u8 (bits .or .u8 (M.bAt (PB D l q) (q / 8) : Int) (2 ^ (q % 8) % 256)))) w.heap.size (PB D l (q + 1))) := hnew
            clear hnew hb hbw hYi hqz hpD
            go_wp2_with fail
            go_big_region
            go_wp2
            go_roundw
            case rel => exact ⟨j + 1, q + 1, Y / 2, by omega, by go_num, by go_num, by go_num, by omega, HQ2, HY2, HNew.out, (HBj.out.setCell (p := ⟨w.heap.size, q / 8, none⟩) (Nat.le_refl _) _).drew⟩
            case measure => simp [intOf]; omega
        · obtain rfl : j = D := by omega
          have hqn : q = (k + 1) * j := by rw [HNx.out, HQ.out]
          have HQN : Hid (q = (k + 1) * j) := hqn
          clear hqn
          go_wp2
          go_roundw
          case rel => exact ⟨k + 1, q, by omega, by go_num, rfl, HQN, HRj, HBj⟩
          case measure => simp [intOf]; omega
    · obtain rfl : k = l.length := by omega
      have hro := HRo.out
      rw [HM.out] at hro
      have hby : Byt wr (some ⟨w.heap.size, 0, none⟩) Z (B.pack D l) := RowAt.byt (l := B.pack D l) hro (by rw [B.pack_len]; exact HZ.out) (by omega)
      have HBy : Hid (Byt wr (some ⟨w.heap.size, 0, none⟩) Z (B.pack D l)) := hby
      have HLn : Hid (Z = (B.pack D l).length) := (by rw [B.pack_len]; exact HZ.out : Z = (B.pack D l).length)
      clear hby hro
      go_wp2
      go_ret2
      exact ⟨_, rfl, ⟨some ⟨w.heap.size, 0, none⟩, Z, by rw [← HLn.out]; rfl, HBy.out⟩, Fresh.at _ _ _, HBl.out⟩
end Go.Proofs.Ytkhbkifofkjjnaa
