/-
  The contracts of the document's own answers for bits (Width, Size, Pack, Unpack), of the statements' own 'few' and of Same over numbers, over the program. The contract of the document's own Pack over the program.
-/
import Derived.Test.YtnmonoafjijfhaaGreatM09
import Derived.Test.YtnmonoafjijfhaaGreatM11
namespace Go.Proofs.YtnmonoafjijfhaaGreat
open Go.RowKit
set_option linter.unusedVariables false

/-- A value's block, if it has one, is new. -/
def Fresh (base : Nat) (v : Value) : Prop := ∀ g, v.ownBlock = some g → base ≤ g
theorem Fresh.nil (base : Nat) : Fresh base (.slice none 0 0) := fun g h => by simp [Value.ownBlock] at h
theorem Fresh.at (g n c : Nat) : Fresh g (.slice (some ⟨g, 0, none⟩) n c) := fun k h => by simp [Value.ownBlock] at h; omega
theorem width_snoc {l : List Nat} {k : Nat} (h : k < l.length) : B.width (l.take (k + 1)) = max (B.width (l.take k)) (B.wid l[k]) := by
  rw [List.take_succ_eq_append_getElem h, B.width_append]
  simp [B.width]

theorem shr_some {x U : Nat} (h : ¬ B.wid x ≤ U) : ((x : Int) / 2 ^ U != 0) = true := by
  have e : (x : Int) / 2 ^ U = ((x / 2 ^ U : Nat) : Int) := by simp
  rw [e]
  have h1 : ¬ x < 2 ^ U := fun h2 => h ((B.wid_le x U).2 h2)
  have h2 : x / 2 ^ U ≠ 0 := by rw [Ne, Nat.div_eq_zero_iff]; have := Nat.two_pow_pos U; omega
  simp only [bne_iff_ne, ne_eq]
  omega
theorem shr_none {x U : Nat} (h : B.wid x ≤ U) : ((x : Int) / 2 ^ U != 0) = false := by
  have e : (x : Int) / 2 ^ U = ((x / 2 ^ U : Nat) : Int) := by simp
  rw [e, Nat.div_eq_of_lt ((B.wid_le x U).1 h)]
  rfl

set_option maxRecDepth 100000 in
theorem rwidth_any (a : Option Addr) (cap : Nat) (l : List Nat) (w : World) (hB : Rd n64 w a cap l) (h64 : ∀ x ∈ l, x < 18446744073709551616) :
    Calls Tryz.prog 42 #[.slice a l.length cap] w fun e w' => e = .returned (.int .i64 (B.width l)) ∧ w' = w := by
  have hlc := hB.1
  have hcm := hB.2.1
  unfold maxLen at hcm
  have hlen : l.length ≤ 9223372036854775807 := by omega
  have HB : Hid (Rd n64 w a cap l) := hB
  clear hB
  obtain ⟨R, hR⟩ : ∃ R, R = B.width l := ⟨_, rfl⟩
  have HR : Hid (R = B.width l) := hR
  rw [← hR]
  clear hR
  have H64 : Hid (∀ x ∈ l, x < 18446744073709551616) := h64
  clear h64
  go_enter Tryz.func42, Tryz.ntmps42
  go_wp2
  go_loop [3, 4] (fun v i => ∃ k W : Nat, k ≤ l.length ∧ W ≤ 64 ∧ i = .int .i64 k ∧ v = .int .i64 W ∧ W = B.width (l.take k)) (fun _ i => l.length - (intOf i).toNat)
  case atStart => exact ⟨0, 0, by omega, by omega, rfl, rfl, rfl⟩
  case round =>
    obtain ⟨k, W, hk, hW, rfl, rfl, hs⟩ := hrel
    have HS : Hid (W = B.width (l.take k)) := hs
    clear hs
    by_cases hlt : k < l.length
    · obtain ⟨b, off, rfl, hc⟩ := HB.out.at hlt
      have hx64 := H64.out l[k] (List.getElem_mem hlt)
      obtain ⟨x, hx⟩ : ∃ x, x = l[k] := ⟨_, rfl⟩
      rw [← hx] at hc hx64
      have hc' : w.cell? ⟨b, off + k, none⟩ = some (.int .u64 (x : Int)) := hc
      clear hc
      obtain ⟨V, hV⟩ : ∃ V, V = B.width (l.take (k + 1)) := ⟨_, rfl⟩
      have hVm : V = max W (B.wid x) := by rw [hV, width_snoc hlt, HS.out, hx]
      have HV : Hid (V = B.width (l.take (k + 1))) := hV
      have HVm : Hid (V = max W (B.wid x)) := hVm
      have hwx : B.wid x ≤ 64 := (B.wid_le x 64).2 (by omega)
      clear hV hVm hx
      have hki : (k : Int) < (l.length : Int) := by omega
      go_wp2
      go_loop [3] (fun v => ∃ U : Nat, U ≤ 64 ∧ v = .int .i64 U ∧ V = max U (B.wid x)) (fun v => 64 - (intOf v).toNat)
      case atStart => exact ⟨W, hW, rfl, HVm.out⟩
      case round =>
        obtain ⟨U, hU, rfl, hm⟩ := hrel
        have HM : Hid (V = max U (B.wid x)) := hm
        clear hm
        by_cases hU64 : U < 64
        · have hd : decide ((U : Int) < 64) = true := by simp; omega
          by_cases hwU : B.wid x ≤ U
          · have hsh := shr_none hwU
            have hVU : V = U := by have := HM.out; omega
            have HVU : Hid (V = U) := hVU
            clear hVU
            go_wp2
            go_round
            case rel => exact ⟨k + 1, U, by omega, hU, by go_num, rfl, by rw [← HV.out, HVU.out]⟩
            case measure => simp [intOf]; omega
          · have hsh := shr_some hwU
            go_wp2
            go_round
            case rel => exact ⟨U + 1, by omega, by go_num, by have := HM.out; omega⟩
            case measure => simp [intOf]; omega
        · have hd : decide ((U : Int) < 64) = false := by simp; omega
          have hVU : V = U := by have := HM.out; omega
          have HVU : Hid (V = U) := hVU
          clear hVU
          go_wp2
          go_round
          case rel => exact ⟨k + 1, U, by omega, hU, by go_num, rfl, by rw [← HV.out, HVU.out]⟩
          case measure => simp [intOf]; omega
    · obtain rfl : k = l.length := by omega
      have hRW : R = W := by rw [HR.out, HS.out, List.take_length]
      have HRW : Hid (R = W) := hRW
      clear hRW
      go_wp2
      go_ret
      exact ⟨I.ret_int (by rw [HRW.out]), rfl⟩

end Go.Proofs.YtnmonoafjijfhaaGreat
namespace Go.Proofs.YtnmonoafjijfhaaGreat
open Go.RowKit
set_option linter.unusedVariables false

/-- What Pack has laid when it stands at place q. -/
def PB (D : Nat) (l : List Nat) (q : Nat) : List UInt8 := B.bytesOf (fun p => decide (p < q) && B.bitW D l p) (B.size l.length D)
theorem PB_len (D : Nat) (l : List Nat) (q : Nat) : (PB D l q).length = B.size l.length D := B.bytesOf_len _ _
theorem PB_bit (D : Nat) (l : List Nat) (q p : Nat) : B.bit8 (PB D l q) p = (decide (p < 8 * B.size l.length D) && (decide (p < q) && B.bitW D l p)) := B.bit8_of _ _ _
theorem bit8_zero (n p : Nat) : B.bit8 (List.replicate n 0) p = false := by
  unfold B.bit8
  simp only [List.getD_eq_getElem?_getD, List.getElem?_replicate]
  split <;> simp
theorem PB_start (D : Nat) (l : List Nat) : PB D l 0 = List.replicate (B.size l.length D) 0 := by
  apply B.ext8
  · rw [PB_len]; simp
  · intro p _
    rw [PB_bit, bit8_zero]; simp
theorem PB_same {D : Nat} {l : List Nat} {q : Nat} (h : B.bitW D l q = false) : PB D l (q + 1) = PB D l q := by
  apply B.ext8
  · rw [PB_len, PB_len]
  · intro p _
    rw [PB_bit, PB_bit]
    by_cases hp : p = q
    · subst hp; simp [h]
    · have : (decide (p < q + 1)) = decide (p < q) := by simp; omega
      rw [this]
theorem bit8_set (b : List UInt8) (q : Nat) (hq : q / 8 < b.length) (X : UInt8) (hX : X.toNat = (b.getD (q / 8) 0).toNat ||| 2 ^ (q % 8)) (p : Nat) : B.bit8 (b.set (q / 8) X) p = (B.bit8 b p || decide (p = q)) := by
  unfold B.bit8
  simp only [List.getD_eq_getElem?_getD]
  by_cases h : p / 8 = q / 8
  · rw [h, List.getElem?_set_self hq, Option.getD_some, hX, Nat.testBit_or, Nat.testBit_two_pow, List.getD_eq_getElem?_getD]
    congr 1
    simp only [decide_eq_decide]
    omega
  · rw [List.getElem?_set_ne (fun e => h e.symm)]
    have : ¬ p = q := fun e => h (by rw [e])
    simp [this]
theorem PB_set {D : Nat} {l : List Nat} {q : Nat} (hq : q < l.length * D) (h : B.bitW D l q = true) (X : UInt8) (hX : X.toNat = ((PB D l q).getD (q / 8) 0).toNat ||| 2 ^ (q % 8)) : (PB D l q).set (q / 8) X = PB D l (q + 1) := by
  have hs := B.size_le l.length D
  apply B.ext8
  · rw [List.length_set, PB_len, PB_len]
  · intro p _
    rw [bit8_set _ _ (by rw [PB_len]; omega) X hX, PB_bit, PB_bit]
    by_cases hp : p = q
    · subst hp; simp [h]; omega
    · have : (decide (p < q + 1)) = decide (p < q) := by simp; omega
      rw [this]; simp [hp]

theorem bit_one {x j : Nat} (hx : x < 18446744073709551616) (h : x.testBit j = true) : bits .and .u64 ((x : Int) / 2 ^ j) 1 = 1 := by
  have e : (x : Int) / 2 ^ j = ((x / 2 ^ j : Nat) : Int) := by simp
  have hd := Nat.div_le_self x (2 ^ j)
  rw [Nat.testBit_eq_decide_div_mod_eq] at h
  rw [e]
  generalize x / 2 ^ j = y at hd h ⊢
  rw [I.and1 _ (by omega) (by omega)]
  simp at h
  omega
theorem bit_none {x j : Nat} (hx : x < 18446744073709551616) (h : x.testBit j = false) : bits .and .u64 ((x : Int) / 2 ^ j) 1 = 0 := by
  have e : (x : Int) / 2 ^ j = ((x / 2 ^ j : Nat) : Int) := by simp
  have hd := Nat.div_le_self x (2 ^ j)
  rw [Nat.testBit_eq_decide_div_mod_eq] at h
  rw [e]
  generalize x / 2 ^ j = y at hd h ⊢
  rw [I.and1 _ (by omega) (by omega)]
  simp at h
  omega
theorem two_lt {t : Nat} (ht : t < 8) : 2 ^ t < 256 := Nat.pow_lt_pow_right (a := 2) (m := t) (n := 8) (by decide) ht
theorem or_bit (o t : Nat) (ho : o < 256) (ht : t < 8) : bits .or .u8 (o : Int) (2 ^ t % 256) = ((o ||| 2 ^ t : Nat) : Int) := by
  have h := two_lt ht
  have e : (2 : Int) ^ t % 256 = ((2 ^ t : Nat) : Int) := by
    have : ((2 ^ t : Nat) : Int) = (2 : Int) ^ t := by simp
    rw [← this]
    generalize 2 ^ t = y at h ⊢
    omega
  rw [e]
  exact (bits_nat .u8 8 (by decide) wraps_u8 o (2 ^ t) (by omega) (by omega)).2
theorem or_lt (o t : Nat) (ho : o < 256) (ht : t < 8) : o ||| 2 ^ t < 256 := by
  have h := Nat.or_lt_two_pow (x := o) (y := 2 ^ t) (n := 8) (by omega) (two_lt ht)
  omega
/-- A bit is set in a row of bytes. -/
theorem row_bit {w : World} {g q : Nat} {D : Nat} {l : List Nat} (h : RowAt n8 5 w g (PB D l q)) (hq : q < l.length * D) (hb : B.bitW D l q = true) :
    RowAt n8 5 (w.setCell ⟨g, q / 8, none⟩ (.int .u8 (bits .or .u8 (M.bAt (PB D l q) (q / 8) : Int) (2 ^ (q % 8) % 256)))) g (PB D l (q + 1)) := by
  have ho := M.bAt_lt (PB D l q) (q / 8)
  have ht : q % 8 < 8 := by omega
  rw [or_bit _ _ ho ht]
  have hX : (UInt8.ofNat (M.bAt (PB D l q) (q / 8) ||| 2 ^ (q % 8))).toNat = ((PB D l q).getD (q / 8) 0).toNat ||| 2 ^ (q % 8) := by
    rw [UInt8.toNat_ofNat', Nat.mod_eq_of_lt (or_lt _ _ ho ht)]; rfl
  have := h.set (k := q / 8) (v := .int .u8 ((M.bAt (PB D l q) (q / 8) ||| 2 ^ (q % 8) : Nat) : Int)) (UInt8.ofNat (M.bAt (PB D l q) (q / 8) ||| 2 ^ (q % 8))) (by rw [n8, hX]; rfl)
  rw [PB_set hq hb _ hX] at this
  exact this
theorem IsByt.nil (w : World) : IsByt [] (.slice none 0 0) w := ⟨none, 0, rfl, Byt.nil w⟩

set_option maxRecDepth 100000 in
theorem rpack_main (a : Option Addr) (cap : Nat) (l : List Nat) (D : Nat) (w : World) (hB : Rd n64 w a cap l) (h64 : ∀ x ∈ l, x < 18446744073709551616) (hl : l.length ≤ 2097152) (hD : D ≤ 64) (hw : B.width l ≤ D) :
    Calls Tryz.prog 78 #[.slice a l.length cap, .int .i64 D] w fun e w' => ∃ v, e = .returned (.tuple #[v, .int .i64 0]) ∧ IsByt (B.pack D l) v w' ∧ Ex w w' := by
  have hlc := hB.1
  have HB : Hid (Rd n64 w a cap l) := hB
  have H64 : Hid (∀ x ∈ l, x < 18446744073709551616) := h64
  clear hB h64
  have t1 : decide ((D : Int) < 0) = false := by simp
  have t2 : decide (64 < (D : Int)) = false := by simp; omega
  have t3 : decide ((D : Int) < (B.width l : Int)) = false := by simp; omega
  obtain ⟨S, hS⟩ : ∃ S, S = l.length * D := ⟨_, rfl⟩
  have hSm : S ≤ 2097152 * 64 := by rw [hS]; exact Nat.mul_le_mul hl hD
  have hSi : (l.length : Int) * (D : Int) = (S : Int) := by rw [hS]; simp
  obtain ⟨Z, hZ⟩ : ∃ Z, Z = B.size l.length D := ⟨_, rfl⟩
  have hZ8 : Z = (S + 7) / 8 := by rw [hZ, hS]; rfl
  have hz1 : 8 * Z ≤ S + 7 := by omega
  have hz2 : S + 7 < 8 * Z + 8 := by omega
  clear hZ8
  have HS : Hid (S = l.length * D) := hS
  have HZ : Hid (Z = B.size l.length D) := hZ
  clear hS hZ
  go_enter Tryz.func78, Tryz.ntmps78
  go_wp2_with fail
  refine (rwidth_any a cap l _ HB.out H64.out).mono ?_
  rintro e wq ⟨rfl, hw'⟩
  have hw'' := hw'.symm
  clear hw'
  subst hw''
  go_wp2_with (at_make; refine wpList_make_row (enc := n8) rfl _ _ 22 5 rfl 0 1 Tryz.underlying22 rfl Tryz.info5 _ _ Z rfl rfl (by omega) (by omega) (by omega) (by omega) ?_; intro w1 hr1 hb1)
  have hrz : RowAt n8 5 w1 w.heap.size (PB D l (0 * D)) := by rw [Nat.zero_mul, PB_start, ← HZ.out]; exact hr1
  have HRZ : Hid (RowAt n8 5 w1 w.heap.size (PB D l (0 * D))) := hrz
  clear hr1 hrz
  go_loopw [7] (fun i wr => ∃ k : Nat, k ≤ l.length ∧ i = .int .i64 k ∧ Hid (RowAt n8 5 wr w.heap.size (PB D l (k * D))) ∧ Hid (Below w.heap.size w wr)) (fun i _ => l.length - (intOf i).toNat)
  case atStart => exact ⟨0, by omega, rfl, HRZ, hb1⟩
  case round =>
    obtain ⟨k, hk, rfl, HRo, HBl⟩ := hrel
    clear HRZ hb1
    by_cases hlt : k < l.length
    · obtain ⟨b, off, rfl, hc⟩ := HB.out.at hlt
      have hx64 := H64.out l[k] (List.getElem_mem hlt)
      have hbit : ∀ j, j < D → B.bitW D l (k * D + j) = l[k].testBit j := fun j hj => by
        unfold B.bitW
        rw [B.place_div hj, B.place_mod hj]
        simp [hlt]
      obtain ⟨x, hx⟩ : ∃ x, x = l[k] := ⟨_, rfl⟩
      rw [← hx] at hc hx64 hbit
      have hq := World.block_lt_of_cell? w _ hc
      have HCX : Hid (w.cell? ⟨b, off + k, none⟩ = some (.int .u64 (x : Int))) := hc
      have HBit : Hid (∀ j, j < D → B.bitW D l (k * D + j) = x.testBit j) := hbit
      have hpl : ∀ j, j < D → k * D + j < l.length * D := fun j hj => B.place_lt hlt hj
      rw [← HS.out] at hpl
      obtain ⟨m, hm⟩ : ∃ m, m = k * D := ⟨_, rfl⟩
      have hmi : (k : Int) * (D : Int) = (m : Int) := by rw [hm]; simp
      have HM : Hid (m = k * D) := hm
      rw [← hm] at hpl
      have HPl : Hid (∀ j, j < D → m + j < S) := hpl
      have hnext : (k + 1) * D = m + D := by rw [hm, Nat.add_mul]; omega
      have HNx : Hid ((k + 1) * D = m + D) := hnext
      have hms : m ≤ S := by rw [hm, HS.out]; exact Nat.mul_le_mul_right D hk
      clear hc hx hbit hpl hm hnext
      have hq' : b < w.heap.size := hq
      have hki : (k : Int) < (l.length : Int) := by omega
      go_wp2
      go_loopw [8] (fun i wr => ∃ j : Nat, j ≤ D ∧ i = .int .i64 j ∧ Hid (RowAt n8 5 wr w.heap.size (PB D l (m + j))) ∧ Hid (Below w.heap.size w wr)) (fun i _ => D - (intOf i).toNat)
      case atStart =>
        have h0 : RowAt n8 5 wr w.heap.size (PB D l (m + 0)) := by rw [HM.out]; exact HRo.out
        exact ⟨0, by omega, rfl, h0, HBl⟩
      case round =>
        obtain ⟨j, hj, rfl, HRj, HBj⟩ := hrel
        clear HRo HBl
        by_cases hjl : j < D
        · have hcx : wr.cell? ⟨b, off + k, none⟩ = some (.int .u64 (x : Int)) := by
            rw [HBj.out.cell (p := ⟨b, off + k, none⟩) hq]; exact HCX.out
          have hpq := HPl.out j hjl
          have hbw := HBit.out j hjl
          rw [← HM.out] at hbw
          have HBW : Hid (B.bitW D l (m + j) = x.testBit j) := hbw
          clear hbw
          cases hb : x.testBit j
          · have hand := bit_none hx64 hb
            have hsame := PB_same (D := D) (l := l) (q := m + j) (by rw [HBW.out]; exact hb)
            have HSm : Hid (PB D l (m + j + 1) = PB D l (m + j)) := hsame
            clear hsame
            go_wp2
            go_roundw
            case rel =>
              have hr : RowAt n8 5 wr w.heap.size (PB D l (m + (j + 1))) := by rw [← Nat.add_assoc, HSm.out]; exact HRj.out
              exact ⟨j + 1, by omega, by go_num, hr, HBj⟩
            case measure => simp [intOf]; omega
          · have hand := bit_one hx64 hb
            have hqz : (m + j) / 8 < (PB D l (m + j)).length := by rw [PB_len, ← HZ.out]; omega
            have hcb : wr.cell? ⟨w.heap.size, (m + j) / 8, none⟩ = some (.int .u8 (M.bAt (PB D l (m + j)) ((m + j) / 8) : Int)) := by
              rw [HRj.out.cell hqz]; simp [M.bAt, hqz]
            have hfb : wr.frozen? ⟨w.heap.size, (m + j) / 8, none⟩ = false := HRj.out.frozen _
            have hii : ((m : Int) + (j : Int)) / 8 < (Z : Int) := by omega
            have hpD : m + j < l.length * D := by rw [← HS.out]; exact hpq
            have hnew := row_bit HRj.out hpD (by rw [HBW.out]; exact hb)
            have HNew : Hid (RowAt n8 5 (wr.setCell ⟨w.heap.size, (m + j) / 8, none⟩ (.int .u8 (bits .or .u8 (M.bAt (PB D l (m + j)) ((m + j) / 8) : Int) (2 ^ ((m + j) % 8) % 256)))) w.heap.size (PB D l (m + j + 1))) := hnew
            have HHB : Hid (x.testBit j = true) := hb
            clear hnew hb hpD
            go_wp2
            go_roundw
            case rel => exact ⟨j + 1, by omega, by go_num, HNew.out, HBj.out.setCell (p := ⟨w.heap.size, (m + j) / 8, none⟩) (Nat.le_refl _) _⟩
            case measure => simp [intOf]; omega
        · obtain rfl : j = D := by omega
          have hr : RowAt n8 5 wr w.heap.size (PB j l ((k + 1) * j)) := by rw [HNx.out]; exact HRj.out
          have HRn : Hid (RowAt n8 5 wr w.heap.size (PB j l ((k + 1) * j))) := hr
          clear hr
          go_wp2
          go_roundw
          case rel => exact ⟨k + 1, by omega, by go_num, HRn, HBj⟩
          case measure => simp [intOf]; omega
    · obtain rfl : k = l.length := by omega
      have hby : Byt wr (some ⟨w.heap.size, 0, none⟩) Z (B.pack D l) := RowAt.byt (l := B.pack D l) HRo.out (by rw [B.pack_len]; exact HZ.out) (by omega)
      have HBy : Hid (Byt wr (some ⟨w.heap.size, 0, none⟩) Z (B.pack D l)) := hby
      have HLn : Hid (Z = (B.pack D l).length) := (by rw [B.pack_len]; exact HZ.out : Z = (B.pack D l).length)
      clear hby
      go_wp2
      go_ret2
      exact ⟨_, rfl, ⟨some ⟨w.heap.size, 0, none⟩, Z, by rw [← HLn.out]; rfl, HBy.out⟩, HBl.out⟩

set_option maxRecDepth 100000 in
/-- The document's own Pack. -/
theorem rpack_any (a : Option Addr) (n cap : Nat) (l : List Nat) (wd : Int) (w : World) (hn : n = l.length) (hB : Rd n64 w a cap l) (h64 : ∀ x ∈ l, x < 18446744073709551616) (hl : l.length ≤ 2097152) (r : List UInt8) (e0 : Nat) (hr : B.pck l wd = (r, e0)) :
    Calls Tryz.prog 78 #[.slice a n cap, .int .i64 wd] w fun e w' => ∃ v, e = .returned (.tuple #[v, .int .i64 e0]) ∧ IsByt r v w' ∧ Ex w w' := by
  subst hn
  have HB : Hid (Rd n64 w a cap l) := hB
  have H64 : Hid (∀ x ∈ l, x < 18446744073709551616) := h64
  clear hB h64
  by_cases a1 : wd < 0
  · have t1 : decide (wd < 0) = true := by simp; omega
    unfold B.pck at hr
    rw [if_pos (by omega)] at hr
    simp only [Prod.mk.injEq] at hr
    obtain ⟨rfl, rfl⟩ := hr
    go_enter Tryz.func78, Tryz.ntmps78
    go_wp2
    go_ret2
    exact ⟨_, rfl, IsByt.nil _, Ex.refl _⟩
  · have t1 : decide (wd < 0) = false := by simp; omega
    by_cases a2 : 64 < wd
    · have t2 : decide (64 < wd) = true := by simp; omega
      unfold B.pck at hr
      rw [if_pos (by omega)] at hr
      simp only [Prod.mk.injEq] at hr
      obtain ⟨rfl, rfl⟩ := hr
      go_enter Tryz.func78, Tryz.ntmps78
      go_wp2
      go_ret2
      exact ⟨_, rfl, IsByt.nil _, Ex.refl _⟩
    · obtain ⟨D, rfl⟩ := Int.eq_ofNat_of_zero_le (show 0 ≤ wd by omega)
      by_cases a3 : D < B.width l
      · have t2 : decide (64 < (D : Int)) = false := by simp; omega
        have t3 : decide ((D : Int) < (B.width l : Int)) = true := by simp; omega
        unfold B.pck at hr
        rw [if_pos (by simp; omega)] at hr
        simp only [Prod.mk.injEq] at hr
        obtain ⟨rfl, rfl⟩ := hr
        go_enter Tryz.func78, Tryz.ntmps78
        go_wp2_with fail
        refine (rwidth_any a cap l _ HB.out H64.out).mono ?_
        rintro e wq ⟨rfl, hw'⟩
        have hw'' := hw'.symm
        clear hw'
        subst hw''
        go_wp2
        go_ret2
        exact ⟨_, rfl, IsByt.nil _, Ex.refl _⟩
      · rw [B.pck_ok (by omega) (by omega)] at hr
        simp only [Prod.mk.injEq] at hr
        obtain ⟨rfl, rfl⟩ := hr
        exact rpack_main a cap l D w HB.out H64.out hl (by omega) (by omega)
end Go.Proofs.YtnmonoafjijfhaaGreat
