/-
  Package bits: Width, Size, hasBitsFrom. Package bits: Pack.
-/
import Derived.Test.YtnmonoafjijfhaaGreatM17
namespace Go.Proofs.YtnmonoafjijfhaaGreat
open Go.RowKit
set_option linter.unusedVariables false

/-- All numbers of a list, or-ed together. -/
def orAll (l : List Nat) : Nat := l.foldl (fun a x => a ||| x) 0
theorem orAll_snoc {l : List Nat} {k : Nat} (h : k < l.length) : orAll (l.take (k + 1)) = orAll (l.take k) ||| l[k] := by
  unfold orAll
  rw [List.take_succ_eq_append_getElem h, List.foldl_append]
  rfl
theorem or_lt_iff (a b w : Nat) : a ||| b < 2 ^ w ↔ a < 2 ^ w ∧ b < 2 ^ w := by
  constructor
  · intro h
    exact ⟨Nat.lt_of_le_of_lt Nat.left_le_or h, Nat.lt_of_le_of_lt Nat.right_le_or h⟩
  · rintro ⟨h1, h2⟩
    exact Nat.or_lt_two_pow h1 h2
theorem orAll_lt (w : Nat) : ∀ (l : List Nat) (a : Nat), l.foldl (fun a x => a ||| x) a < 2 ^ w ↔ a < 2 ^ w ∧ ∀ x ∈ l, x < 2 ^ w
  | [], a => by simp
  | x :: r, a => by
    simp only [List.foldl_cons, List.mem_cons, forall_eq_or_imp]
    rw [orAll_lt w r, or_lt_iff]
    exact and_assoc
theorem orAll_wid (l : List Nat) : B.wid (orAll l) = B.width l := by
  have h : ∀ w, B.wid (orAll l) ≤ w ↔ B.width l ≤ w := fun w => by
    rw [B.wid_le, B.width_le]
    unfold orAll
    rw [orAll_lt]
    simp [Nat.two_pow_pos]
  have h1 := (h (B.width l)).2 (Nat.le_refl _)
  have h2 := (h (B.wid (orAll l))).1 (Nat.le_refl _)
  omega
theorem orAll_64 {l : List Nat} (h : ∀ x ∈ l, x < 18446744073709551616) : orAll l < 18446744073709551616 := by
  have := (orAll_lt 64 l 0).2 ⟨by decide, by simpa using h⟩
  simpa [orAll] using this
theorem wid_half {x : Nat} (h : 0 < x) : B.wid x = B.wid (x / 2) + 1 := by
  have hx : ∀ w, B.wid x ≤ w + 1 ↔ B.wid (x / 2) ≤ w := fun w => by
    rw [B.wid_le, B.wid_le, Nat.pow_succ]; omega
  have h0 : ¬ B.wid x ≤ 0 := by rw [B.wid_le]; simp; omega
  have h1 := (hx (B.wid (x / 2))).2 (Nat.le_refl _)
  have h2 := (hx (B.wid x - 1)).1 (by omega)
  omega

set_option maxRecDepth 100000 in
theorem width_any (a : Option Addr) (cap : Nat) (l : List Nat) (w : World) (hB : Rd n64 w a cap l) (h64 : ∀ x ∈ l, x < 18446744073709551616) :
    Calls Tryz.prog 72 #[.slice a l.length cap] w fun e w' => e = .returned (.int .i64 (B.width l)) ∧ w' = w := by
  have hlc := hB.1
  have hcm := hB.2.1
  unfold maxLen at hcm
  have hlen : l.length ≤ 9223372036854775807 := by omega
  have HB : Hid (Rd n64 w a cap l) := hB
  clear hB
  obtain ⟨R, hR⟩ : ∃ R, R = B.width l := ⟨_, rfl⟩
  have hRw := orAll_wid l
  rw [← hR] at hRw
  have HR : Hid (B.wid (orAll l) = R) := hRw
  have hR64 : R ≤ 64 := by rw [hR]; exact B.width64 h64
  rw [← hR]
  clear hR hRw
  have H64 : Hid (∀ x ∈ l, x < 18446744073709551616) := h64
  clear h64
  go_enter Tryz.func72, Tryz.ntmps72
  go_wp2
  go_loop [3, 9] (fun v i => ∃ k A : Nat, k ≤ l.length ∧ i = .int .i64 k ∧ v = .int .u64 A ∧ Hid (A = orAll (l.take k))) (fun _ i => l.length - (intOf i).toNat)
  case atStart => exact ⟨0, 0, by omega, rfl, rfl, (rfl : 0 = orAll (l.take 0))⟩
  case round =>
    obtain ⟨k, A, hk, rfl, rfl, HS⟩ := hrel
    have hA64 : A < 18446744073709551616 := by rw [HS.out]; exact orAll_64 fun x hx => H64.out x (List.mem_of_mem_take hx)
    by_cases hlt : k < l.length
    · obtain ⟨b, off, rfl, hc⟩ := HB.out.at hlt
      have hx64 := H64.out l[k] (List.getElem_mem hlt)
      have hsn := orAll_snoc hlt
      obtain ⟨x, hx⟩ : ∃ x, x = l[k] := ⟨_, rfl⟩
      rw [← hx] at hc hx64 hsn
      have hc' : w.cell? ⟨b, off + k, none⟩ = some (.int .u64 (x : Int)) := hc
      clear hc
      have hor : bits .or .u64 (A : Int) (x : Int) = ((A ||| x : Nat) : Int) := (bits_nat .u64 64 (by decide) I.wraps64 A x (by omega) (by omega)).2
      obtain ⟨Y, hY⟩ : ∃ Y, Y = A ||| x := ⟨_, rfl⟩
      rw [← hY] at hor
      have HY : Hid (Y = orAll (l.take (k + 1))) := (by rw [hY, hsn, HS.out] : Y = orAll (l.take (k + 1)))
      clear hY hsn hx
      have hki : (k : Int) < (l.length : Int) := by omega
      go_wp2
      go_round
      case rel => exact ⟨k + 1, Y, by omega, by go_num, rfl, HY⟩
      case measure => simp [intOf]; omega
    · obtain rfl : k = l.length := by omega
      have hWA : B.wid A = R := by rw [HS.out, List.take_length]; exact HR.out
      have HWA : Hid (0 + B.wid A = R) := (by omega : 0 + B.wid A = R)
      clear hWA
      go_wp2
      go_loop [3, 6] (fun v i => ∃ W X : Nat, i = .int .i64 W ∧ v = .int .u64 X ∧ X < 18446744073709551616 ∧ Hid (W + B.wid X = R)) (fun v _ => (intOf v).toNat)
      case atStart => exact ⟨0, A, rfl, rfl, hA64, HWA⟩
      case round =>
        obtain ⟨W, X, rfl, rfl, hX64, HW⟩ := hrel
        have hW64 : W ≤ 64 := by have := HW.out; omega
        by_cases hX : 0 < X
        · have hd : decide (0 < X) = true := by simp; omega
          have hd2 : decide (0 < (X : Int)) = true := by simp; omega
          have HW2 : Hid (W + 1 + B.wid (X / 2) = R) := (by have := HW.out; have := wid_half hX; omega : W + 1 + B.wid (X / 2) = R)
          go_wp2
          go_round
          case rel => exact ⟨W + 1, X / 2, by go_num, by go_num, by omega, HW2⟩
          case measure => simp [intOf]; omega
        · obtain rfl : X = 0 := by omega
          have hRW : R = W := by have := HW.out; simp [B.wid] at this; omega
          have HRW : Hid (R = W) := hRW
          clear hRW
          go_wp2
          go_ret
          exact ⟨I.ret_int (by rw [HRW.out]), rfl⟩

set_option maxRecDepth 100000 in
theorem size_any (n wd : Int) (w : World) (h1 : -9223372036854775808 ≤ n) (h2 : n ≤ 9223372036854775807) (h3 : -9223372036854775808 ≤ wd) (h4 : wd ≤ 9223372036854775807) :
    Calls Tryz.prog 149 #[.int .i64 n, .int .i64 wd] w fun e w' => e = .returned (.int .i64 (B.siz n wd)) ∧ w' = w := by
  by_cases a1 : 0 ≤ wd ∧ wd ≤ 64
  · have t1 : decide (0 ≤ wd ∧ wd ≤ 64) = true := by simp; omega
    by_cases a2 : 0 ≤ n ∧ n ≤ 16777216
    · have t2 : decide (0 ≤ n ∧ n ≤ 16777216) = true := by simp; omega
      obtain ⟨N, rfl⟩ := Int.eq_ofNat_of_zero_le (show 0 ≤ n by omega)
      obtain ⟨D, rfl⟩ := Int.eq_ofNat_of_zero_le (show 0 ≤ wd by omega)
      have hr : B.siz N D = (N * D + 7) / 8 := by unfold B.siz; rw [if_neg (by omega)]; rfl
      obtain ⟨S, hS⟩ : ∃ S, S = N * D := ⟨_, rfl⟩
      have hm : S ≤ 16777216 * 64 := by rw [hS]; exact Nat.mul_le_mul (by omega) (by omega)
      have hSi : (N : Int) * (D : Int) = (S : Int) := by rw [hS]; simp
      rw [hr, ← hS]
      clear hr hS
      have T1 : Hid (decide (0 ≤ (D : Int) ∧ (D : Int) ≤ 64) = true) := t1
      have T2 : Hid (decide (0 ≤ (N : Int) ∧ (N : Int) ≤ 16777216) = true) := t2
      clear t1 t2
      go_enter Tryz.func149, Tryz.ntmps149
      go_wp2_with fail
      refine (isWidth_is _ _ true T1.out).mono ?_
      rintro e wq ⟨rfl, hw'⟩
      have hw'' := hw'.symm
      clear hw'
      subst hw''
      go_wp2_with fail
      refine (isCount_is _ _ true T2.out).mono ?_
      rintro e wq ⟨rfl, hw'⟩
      have hw'' := hw'.symm
      clear hw'
      subst hw''
      go_wp2_with fail
      refine (bytesOf_is _ S _ rfl (by omega) _ rfl).mono ?_
      rintro e wq ⟨rfl, hw'⟩
      have hw'' := hw'.symm
      clear hw'
      subst hw''
      go_wp2
      go_ret
      exact ⟨rfl, rfl⟩
    · have t2 : decide (0 ≤ n ∧ n ≤ 16777216) = false := by simp; omega
      have hr : B.siz n wd = 0 := by unfold B.siz; rw [if_pos (by omega)]
      rw [hr]
      clear hr
      have T1 : Hid (decide (0 ≤ wd ∧ wd ≤ 64) = true) := t1
      have T2 : Hid (decide (0 ≤ n ∧ n ≤ 16777216) = false) := t2
      clear t1 t2
      go_enter Tryz.func149, Tryz.ntmps149
      go_wp2_with fail
      refine (isWidth_is _ _ true T1.out).mono ?_
      rintro e wq ⟨rfl, hw'⟩
      have hw'' := hw'.symm
      clear hw'
      subst hw''
      go_wp2_with fail
      refine (isCount_is _ _ false T2.out).mono ?_
      rintro e wq ⟨rfl, hw'⟩
      have hw'' := hw'.symm
      clear hw'
      subst hw''
      go_wp2
      go_ret
      exact ⟨rfl, rfl⟩
  · have t1 : decide (0 ≤ wd ∧ wd ≤ 64) = false := by simp; omega
    have hr : B.siz n wd = 0 := by unfold B.siz; rw [if_pos (by omega)]
    rw [hr]
    clear hr
    have T1 : Hid (decide (0 ≤ wd ∧ wd ≤ 64) = false) := t1
    clear t1
    go_enter Tryz.func149, Tryz.ntmps149
    go_wp2_with fail
    refine (isWidth_is _ _ false T1.out).mono ?_
    rintro e wq ⟨rfl, hw'⟩
    have hw'' := hw'.symm
    clear hw'
    subst hw''
    go_wp2
    go_ret
    exact ⟨rfl, rfl⟩
theorem ssize_is (N W : Int) (r : Nat) (w : World) (h1 : -9223372036854775808 ≤ N) (h2 : N ≤ 9223372036854775807) (h3 : -9223372036854775808 ≤ W) (h4 : W ≤ 9223372036854775807) (hr : B.siz N W = r) :
    Calls Tryz.prog 149 #[.int .i64 N, .int .i64 W] w fun e w' => e = .returned (.int .i64 r) ∧ w' = w := by subst hr; exact size_any N W w h1 h2 h3 h4

theorem bitN_le (b : List UInt8) (p : Nat) : bitN b p ≤ 1 := by unfold bitN; split <;> omega
set_option maxRecDepth 100000 in
/-- Is a bit set from a place on? -/
theorem hasBits_any (a : Option Addr) (cap : Nat) (b : List UInt8) (D n S : Nat) (w : World) (hB : Byt w a cap b) (hS : S = n * D) (hbl : b.length ≤ 134217729) (hs : S ≤ 8 * b.length) :
    Calls Tryz.prog 150 #[.slice a b.length cap, .int .i64 S] w fun e w' => e = .returned (.bool (B.left D n b)) ∧ w' = w := by
  have HB : Hid (Byt w a cap b) := hB
  have HS : Hid (S = n * D) := hS
  clear hB hS
  go_enter Tryz.func150, Tryz.ntmps150
  go_wp2
  go_loop [1] (fun i => ∃ p : Nat, S ≤ p ∧ p ≤ 8 * b.length ∧ i = .int .i64 p ∧ Hid (∀ q, S ≤ q → q < p → B.bit8 b q = false)) (fun i => 8 * b.length - (intOf i).toNat)
  case atStart => exact ⟨S, by omega, by omega, rfl, (fun q h1 h2 => by omega : ∀ q, S ≤ q → q < S → B.bit8 b q = false)⟩
  case round =>
    obtain ⟨p, hp1, hp, rfl, HNo⟩ := hrel
    by_cases hlt : p < 8 * b.length
    · have hd : (p : Int) < (b.length : Int) * 8 := by omega
      cases hbit : B.bit8 b p
      · have hbn : bitN b p = 0 := by unfold bitN; simp [hbit]
        have HBN : Hid (bitN b p = 0) := hbn
        have hno : ∀ q, S ≤ q → q < p + 1 → B.bit8 b q = false := fun q h1 h2 => by
          by_cases he : q = p
          · rw [he]; exact hbit
          · exact HNo.out q h1 (by omega)
        have HNo' : Hid (∀ q, S ≤ q → q < p + 1 → B.bit8 b q = false) := hno
        clear hno hbn hbit
        go_wp2_with fail
        refine (bitAt_is a _ cap b _ p _ rfl HB.out rfl hbl hlt 0 HBN.out).mono ?_
        rintro e wq ⟨rfl, hw'⟩
        have hw'' := hw'.symm
        clear hw'
        subst hw''
        go_wp2
        go_round
        case rel => exact ⟨p + 1, by omega, by omega, by go_num, HNo'⟩
        case measure => simp [intOf]; omega
      · have hbn : bitN b p = 1 := by unfold bitN; simp [hbit]
        have HBN : Hid (bitN b p = 1) := hbn
        have hleft : B.left D n b = true := B.left_true (by rw [← HS.out]; exact hp1) hlt hbit
        have HL : Hid (B.left D n b = true) := hleft
        clear hbn hbit hleft
        go_wp2_with fail
        refine (bitAt_is a _ cap b _ p _ rfl HB.out rfl hbl hlt 1 HBN.out).mono ?_
        rintro e wq ⟨rfl, hw'⟩
        have hw'' := hw'.symm
        clear hw'
        subst hw''
        go_wp2
        go_ret
        exact ⟨by rw [HL.out]; rfl, rfl⟩
    · obtain rfl : p = 8 * b.length := by omega
      have hleft : B.left D n b = false := B.left_false.2 fun q h1 h2 => HNo.out q (by rw [HS.out]; exact h1) h2
      have HL : Hid (B.left D n b = false) := hleft
      clear hleft
      have hd : ¬ ((8 * b.length : Nat) : Int) < (b.length : Int) * 8 := by omega
      go_wp2
      go_ret
      exact ⟨by rw [HL.out]; rfl, rfl⟩
end Go.Proofs.YtnmonoafjijfhaaGreat
namespace Go.Proofs.YtnmonoafjijfhaaGreat
open Go.RowKit
set_option linter.unusedVariables false

theorem row_nobit {w : World} {g q : Nat} {D : Nat} {l : List Nat} (h : RowAt n8 5 w g (PB D l q)) (hq : q / 8 < (PB D l q).length) (hb : B.bitW D l q = false) :
    RowAt n8 5 (w.setCell ⟨g, q / 8, none⟩ (.int .u8 (bits .or .u8 (M.bAt (PB D l q) (q / 8) : Int) 0))) g (PB D l (q + 1)) := by
  have ho := M.bAt_lt (PB D l q) (q / 8)
  have e : bits .or .u8 (M.bAt (PB D l q) (q / 8) : Int) 0 = (M.bAt (PB D l q) (q / 8) : Int) := by
    have := (bits_nat .u8 8 (by decide) wraps_u8 (M.bAt (PB D l q) (q / 8)) 0 (by omega) (by omega)).2
    simpa using this
  rw [e, PB_same hb]
  have := h.set (k := q / 8) (v := .int .u8 (M.bAt (PB D l q) (q / 8) : Int)) ((PB D l q)[q / 8]'hq) (by simp [M.bAt, hq])
  rw [List.set_getElem_self] at this
  exact this

set_option maxRecDepth 100000 in
set_option maxHeartbeats 2000000 in
theorem pack_main (a : Option Addr) (cap : Nat) (l : List Nat) (D : Nat) (w : World) (hB : Rd n64 w a cap l) (h64 : ∀ x ∈ l, x < 18446744073709551616) (hl : l.length ≤ 2097152) (hD : D ≤ 64) (hw : B.width l ≤ D) :
    Calls Tryz.prog 122 #[.slice a l.length cap, .int .i64 D] w fun e w' => ∃ v, e = .returned (.tuple #[v, .int .i64 0]) ∧ IsByt (B.pack D l) v w' ∧ Fresh w.heap.size v ∧ Ex w w' := by
  have hlc := hB.1
  have HB : Hid (Rd n64 w a cap l) := hB
  have H64 : Hid (∀ x ∈ l, x < 18446744073709551616) := h64
  clear hB h64
  have T1 : Hid (decide (0 ≤ (D : Int) ∧ (D : Int) ≤ 64) = true) := (by simp; omega : decide (0 ≤ (D : Int) ∧ (D : Int) ≤ 64) = true)
  have t3 : decide ((D : Int) < (B.width l : Int)) = false := by simp; omega
  obtain ⟨S, hS⟩ : ∃ S, S = l.length * D := ⟨_, rfl⟩
  have hSm : S ≤ 2097152 * 64 := by rw [hS]; exact Nat.mul_le_mul hl hD
  have hSi : (l.length : Int) * (D : Int) = (S : Int) := by rw [hS]; simp
  obtain ⟨Z, hZ⟩ : ∃ Z, Z = B.size l.length D := ⟨_, rfl⟩
  have hZ8 : (S + 7) / 8 = Z := by rw [hZ, hS]; rfl
  have HZ8 : Hid ((S + 7) / 8 = Z) := hZ8
  have hz1 : 8 * Z ≤ S + 7 := by omega
  have hz2 : S + 7 < 8 * Z + 8 := by omega
  clear hZ8
  have HS : Hid (S = l.length * D) := hS
  have HZ : Hid (Z = B.size l.length D) := hZ
  clear hS hZ
  go_enter Tryz.func122, Tryz.ntmps122
  go_wp2_with fail
  refine (isWidth_is _ _ true T1.out).mono ?_
  rintro e wq ⟨rfl, hw'⟩
  have hw'' := hw'.symm
  clear hw'
  subst hw''
  go_wp2_with fail
  refine (width_any a cap l _ HB.out H64.out).mono ?_
  rintro e wq ⟨rfl, hw'⟩
  have hw'' := hw'.symm
  clear hw'
  subst hw''
  go_wp2_with fail
  refine (bytesOf_is _ S _ rfl (by omega) Z HZ8.out).mono ?_
  rintro e wq ⟨rfl, hw'⟩
  have hw'' := hw'.symm
  clear hw'
  subst hw''
  go_wp2_with (at_make; refine wpList_make_row (enc := n8) rfl _ _ 22 5 rfl 0 1 Tryz.underlying22 rfl Tryz.info5 _ _ Z rfl rfl (by omega) (by omega) (by omega) (by omega) ?_; intro w1 hr1 hb1)
  have hrz : RowAt n8 5 w1 w.heap.size (PB D l 0) := by rw [PB_start, ← HZ.out]; exact hr1
  have HRZ : Hid (RowAt n8 5 w1 w.heap.size (PB D l 0)) := hrz
  clear hr1 hrz
  go_loopw [7, 27] (fun v i wr => ∃ k m : Nat, k ≤ l.length ∧ i = .int .i64 k ∧ v = .int .i64 m ∧ Hid (m = k * D) ∧ Hid (RowAt n8 5 wr w.heap.size (PB D l m)) ∧ Hid (Below w.heap.size w wr)) (fun _ i _ => l.length - (intOf i).toNat)
  case atStart => exact ⟨0, 0, by omega, rfl, rfl, (by omega : 0 = 0 * D), HRZ, hb1⟩
  case round =>
    obtain ⟨k, m, hk, rfl, rfl, HM, HRo, HBl⟩ := hrel
    clear HRZ hb1
    by_cases hlt : k < l.length
    · obtain ⟨b, off, rfl, hc⟩ := HB.out.at hlt
      have hx64 := H64.out l[k] (List.getElem_mem hlt)
      have hbit : ∀ j, j < D → B.bitW D l (k * D + j) = l[k].testBit j := fun j hj => by
        unfold B.bitW
        rw [B.place_div hj, B.place_mod hj]
        simp [hlt]
      obtain ⟨x, hx⟩ : ∃ x, x = l[k] := ⟨_, rfl⟩
      rw [← hx] at hc hx64 hbit
      have hq := World.block_lt_of_cell? w _ hc
      have hcx : wr.cell? ⟨b, off + k, none⟩ = some (.int .u64 (x : Int)) := by
        rw [HBl.out.cell (p := ⟨b, off + k, none⟩) hq]; exact hc
      have hpl : ∀ j, j < D → k * D + j < l.length * D := fun j hj => B.place_lt hlt hj
      rw [← HS.out] at hpl
      rw [← HM.out] at hpl hbit
      have HBit : Hid (∀ j, j < D → B.bitW D l (m + j) = x.testBit j) := hbit
      have HPl : Hid (∀ j, j < D → m + j < S) := hpl
      have hnext : (k + 1) * D = m + D := by rw [HM.out, Nat.add_mul]; omega
      have HNx : Hid ((k + 1) * D = m + D) := hnext
      have hms : m ≤ S := by rw [HM.out, HS.out]; exact Nat.mul_le_mul_right D hk
      clear hc hx hbit hpl hnext
      have hki : (k : Int) < (l.length : Int) := by omega
      go_wp2
      go_loopw [7, 9, 32] (fun v y i wr => ∃ j q Y : Nat, j ≤ D ∧ i = .int .i64 j ∧ v = .int .i64 q ∧ y = .int .u64 Y ∧ Y < 18446744073709551616 ∧ Hid (q = m + j) ∧ Hid (Y = x / 2 ^ j) ∧ Hid (RowAt n8 5 wr w.heap.size (PB D l q)) ∧ Hid (Below w.heap.size w wr)) (fun _ _ i _ => D - (intOf i).toNat)
      case atStart => exact ⟨0, m, x, by omega, rfl, rfl, rfl, hx64, (by omega : m = m + 0), (by simp : x = x / 2 ^ 0), HRo, HBl⟩
      case round =>
        obtain ⟨j, q, Y, hj, rfl, rfl, rfl, hY64, HQ, HY, HRj, HBj⟩ := hrel
        clear HRo HBl hcx
        by_cases hjl : j < D
        · have hpq := HPl.out j hjl
          rw [← HQ.out] at hpq
          have hbw := HBit.out j hjl
          rw [← HQ.out] at hbw
          have hYi : (x : Int) / 2 ^ j = (Y : Int) := by rw [HY.out]; simp
          have HY2 : Hid (Y / 2 = x / 2 ^ (j + 1)) := (by rw [HY.out, Nat.pow_succ, Nat.div_div_eq_div_mul] : Y / 2 = x / 2 ^ (j + 1))
          have HQ2 : Hid (q + 1 = m + (j + 1)) := (by have := HQ.out; omega : q + 1 = m + (j + 1))
          have hqz : q / 8 < (PB D l q).length := by rw [PB_len, ← HZ.out]; omega
          have hcb : wr.cell? ⟨w.heap.size, q / 8, none⟩ = some (.int .u8 (M.bAt (PB D l q) (q / 8) : Int)) := by
            rw [HRj.out.cell hqz]; simp [M.bAt, hqz]
          have hfb : wr.frozen? ⟨w.heap.size, q / 8, none⟩ = false := HRj.out.frozen _
          have hii : (q : Int) / 8 < (Z : Int) := by omega
          cases hb : x.testBit j
          · have hand := bit_none hx64 hb
            rw [hYi] at hand
            have hnew := row_nobit HRj.out hqz (by rw [hbw]; exact hb)
            have HNew : Hid (RowAt n8 5 (wr.setCell ⟨w.heap.size, q / 8, none⟩ (.int .u8 (bits .or .u8 (M.bAt (PB D l q) (q / 8) : Int) 0))) w.heap.size (PB D l (q + 1))) := hnew
            clear hnew hb hbw hYi hqz
            go_wp2_with fail
            go_big_region
            go_wp2
            go_roundw
            case rel => exact ⟨j + 1, q + 1, Y / 2, by omega, by go_num, by go_num, by go_num, by omega, HQ2, HY2, HNew.out, (HBj.out.setCell (p := ⟨w.heap.size, q / 8, none⟩) (Nat.le_refl _) _).drew⟩
            case measure => simp [intOf]; omega
          · have hand := bit_one hx64 hb
            rw [hYi] at hand
            have hpD : q < l.length * D := by rw [← HS.out]; exact hpq
            have hnew := row_bit HRj.out hpD (by rw [hbw]; exact hb)
            have HNew : Hid (RowAt n8 5 (wr.setCell ⟨w.heap.size, q / 8, none⟩ (.int .u8 (bits .or .u8 (M.bAt (PB D l q) (q / 8) : Int) (2 ^ (q % 8) % 256)))) w.heap.size (PB D l (q + 1))) := hnew
            clear hnew hb hbw hYi hqz hpD
            go_wp2_with fail
            go_big_region
            go_wp2
            go_roundw
            case rel => exact ⟨j + 1, q + 1, Y / 2, by omega, by go_num, by go_num, by go_num, by omega, HQ2, HY2, HNew.out, (HBj.out.setCell (p := ⟨w.heap.size, q / 8, none⟩) (Nat.le_refl _) _).drew⟩
            case measure => simp [intOf]; omega
        · obtain rfl : j = D := by omega
          have hqn : q = (k + 1) * j := by rw [HNx.out, HQ.out]
          have HQN : Hid (q = (k + 1) * j) := hqn
          clear hqn
          go_wp2
          go_roundw
          case rel => exact ⟨k + 1, q, by omega, by go_num, rfl, HQN, HRj, HBj⟩
          case measure => simp [intOf]; omega
    · obtain rfl : k = l.length := by omega
      have hro := HRo.out
      rw [HM.out] at hro
      have hby : Byt wr (some ⟨w.heap.size, 0, none⟩) Z (B.pack D l) := RowAt.byt (l := B.pack D l) hro (by rw [B.pack_len]; exact HZ.out) (by omega)
      have HBy : Hid (Byt wr (some ⟨w.heap.size, 0, none⟩) Z (B.pack D l)) := hby
      have HLn : Hid (Z = (B.pack D l).length) := (by rw [B.pack_len]; exact HZ.out : Z = (B.pack D l).length)
      clear hby hro
      go_wp2
      go_ret2
      exact ⟨_, rfl, ⟨some ⟨w.heap.size, 0, none⟩, Z, by rw [← HLn.out]; rfl, HBy.out⟩, Fresh.at _ _ _, HBl.out⟩
end Go.Proofs.YtnmonoafjijfhaaGreat
