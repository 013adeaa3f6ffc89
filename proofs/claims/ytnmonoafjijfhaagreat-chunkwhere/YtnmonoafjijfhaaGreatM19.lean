/-
  Package bits: Unpack. What the statements' walks take of package bits: its four contracts.
-/
import Derived.Test.YtnmonoafjijfhaaGreatM18
import Derived.Test.YtnmonoafjijfhaaGreatM02
namespace Go.Proofs.YtnmonoafjijfhaaGreat
open Go.RowKit
set_option linter.unusedVariables false

set_option maxRecDepth 100000 in
/-- bitAt, where the cell of its byte alone is known. -/
theorem bitAt_cell (bb off len cap : Nat) (b : List UInt8) (i : Int) (p : Nat) (w : World) (hlen : len = b.length) (hc : w.cell? ⟨bb, off + p / 8, none⟩ = some (.int .u8 (M.bAt b (p / 8) : Int))) (hi : i = (p : Int)) (hbl : b.length ≤ 134217729) (hp : p < 8 * b.length) (r : Nat) (hr : bitN b p = r) :
    Calls Tryz.prog 151 #[.slice (some ⟨bb, off, none⟩) len cap, .int .i64 i] w fun e w' => e = .returned (.int .u8 r) ∧ w' = w := by
  subst hlen
  subst hi
  have hib : (p : Int) / 8 < (b.length : Int) := by omega
  have hand : bits .and .u8 ((M.bAt b (p / 8) : Int) / 2 ^ (p % 8)) 1 = (r : Int) := by
    unfold bitN at hr
    cases hb : B.bit8 b p
    · rw [bit8_none hb]; rw [hb] at hr; simp at hr; omega
    · rw [bit8_one hb]; rw [hb] at hr; simp at hr; omega
  clear hr
  go_enter Tryz.func151, Tryz.ntmps151
  go_wp2
  go_ret
  exact ⟨rfl, rfl⟩

theorem bit_row {f : FuncId} {args : Array Value} {v : Value} {w0 wx : World} (hC : wx = w0) (h : Calls Tryz.prog f args w0 fun e w' => e = .returned v ∧ w' = w0) :
    Calls Tryz.prog f args wx (fun e w' => ∃ u, e = .returned u ∧ Rg.Spec.ok (.inl v) u w' ∧ w' = wx ∧ w' = w0) := by
  subst hC
  exact h.mono fun e w' h => ⟨v, h.1, rfl, h.2, h.2⟩

set_option maxRecDepth 100000 in
set_option maxHeartbeats 2000000 in
/-- Unpack, where the bytes are as many as they should be. -/
theorem unpack_main (a : Option Addr) (cap : Nat) (b : List UInt8) (n D : Nat) (w : World) (hB : Byt w a cap b) (hn : n ≤ 16777216) (hD : D ≤ 64) (hs : b.length = B.size n D) (hleft : B.left D n b = false) :
    Calls Tryz.prog 139 #[.slice a b.length cap, .int .i64 n, .int .i64 D] w fun e w' => ∃ v, e = .returned (.tuple #[v, .int .i64 0]) ∧ IsRd n64 (B.unpack D n b) v w' ∧ Fresh w.heap.size v ∧ Ex w w' := by
  have HB : Hid (Byt w a cap b) := hB
  have HL : Hid (B.left D n b = false) := hleft
  clear hB hleft
  have T1 : Hid (decide (0 ≤ (D : Int) ∧ (D : Int) ≤ 64) = true) := (by simp; omega : decide (0 ≤ (D : Int) ∧ (D : Int) ≤ 64) = true)
  have T2 : Hid (decide (0 ≤ (n : Int) ∧ (n : Int) ≤ 16777216) = true) := (by simp; omega : decide (0 ≤ (n : Int) ∧ (n : Int) ≤ 16777216) = true)
  obtain ⟨S, hS⟩ : ∃ S, S = n * D := ⟨_, rfl⟩
  have hSm : S ≤ 16777216 * 64 := by rw [hS]; exact Nat.mul_le_mul hn hD
  have hSi : (n : Int) * (D : Int) = (S : Int) := by rw [hS]; simp
  have hsz : B.siz n D = b.length := by rw [hs]; unfold B.siz; rw [if_neg (by omega)]; rfl
  have hb8 : 8 * b.length < S + 8 := by rw [hs, hS]; exact B.size_lt n D
  have hb9 : S ≤ 8 * b.length := by rw [hs, hS]; exact B.size_le n D
  have HSz : Hid (B.siz n D = b.length) := hsz
  have HS : Hid (S = n * D) := hS
  clear hS hsz hs
  have hlb : b.length ≤ 134217729 := by omega
  go_enter Tryz.func139, Tryz.ntmps139
  go_wp2_with fail
  refine (isWidth_is _ _ true T1.out).mono ?_
  rintro e wq ⟨rfl, hw'⟩
  have hw'' := hw'.symm
  clear hw'
  subst hw''
  go_wp2_with fail
  refine (isCount_is _ _ true T2.out).mono ?_
  rintro e wq ⟨rfl, hw'⟩
  have hw'' := hw'.symm
  clear hw'
  subst hw''
  go_wp2_with fail
  refine (ssize_is _ _ b.length _ (by omega) (by omega) (by omega) (by omega) HSz.out).mono ?_
  rintro e wq ⟨rfl, hw'⟩
  have hw'' := hw'.symm
  clear hw'
  subst hw''
  go_wp2_with fail
  refine (hasBits_any a cap b D n S _ HB.out HS.out hlb hb9).mono ?_
  rintro e wq ⟨rfl, hw'⟩
  have hw'' := hw'.symm
  clear hw'
  subst hw''
  rw [HL.out]
  go_wp2_with (at_make; refine wpList_make_row (enc := n64) rfl _ _ 77 69 rfl 0 8 Tryz.underlying77 rfl Tryz.info69 _ _ n rfl rfl (by omega) (by omega) (by omega) (by omega) ?_; intro w1 hr1 hb1)
  have hrz : RowAt n64 69 w1 w.heap.size (UN D n b 0) := by rw [UN_start]; exact hr1
  have HRZ : Hid (RowAt n64 69 w1 w.heap.size (UN D n b 0)) := hrz
  clear hr1 hrz
  go_loopw [10, 39] (fun v i wr => ∃ k m : Nat, k ≤ n ∧ i = .int .i64 k ∧ v = .int .i64 m ∧ Hid (m = k * D) ∧ Hid (RowAt n64 69 wr w.heap.size (UN D n b m)) ∧ Hid (Below w.heap.size w wr)) (fun _ i _ => n - (intOf i).toNat)
  case atStart => exact ⟨0, 0, by omega, rfl, rfl, (by omega : 0 = 0 * D), HRZ, hb1⟩
  case round =>
    obtain ⟨k, m, hk, rfl, rfl, HM, HRo, HBl⟩ := hrel
    clear HRZ hb1
    by_cases hlt : k < n
    · have hpl : ∀ j, j < D → k * D + j < n * D := fun j hj => B.place_lt hlt hj
      rw [← HS.out] at hpl
      rw [← HM.out] at hpl
      have HPl : Hid (∀ j, j < D → m + j < S) := hpl
      have hnext : (k + 1) * D = m + D := by rw [HM.out, Nat.add_mul]; omega
      have HNx : Hid ((k + 1) * D = m + D) := hnext
      have hms : m ≤ S := by rw [HM.out, HS.out]; exact Nat.mul_le_mul_right D hk
      clear hpl hnext
      have hki : (k : Int) < (n : Int) := by omega
      go_wp2
      go_loopw [10, 43] (fun v i wr => ∃ j q : Nat, j ≤ D ∧ i = .int .i64 j ∧ v = .int .i64 q ∧ Hid (q = m + j) ∧ Hid (RowAt n64 69 wr w.heap.size (UN D n b q)) ∧ Hid (Below w.heap.size w wr)) (fun _ i _ => D - (intOf i).toNat)
      case atStart => exact ⟨0, m, by omega, rfl, rfl, (by omega : m = m + 0), HRo, HBl⟩
      case round =>
        obtain ⟨j, q, hj, rfl, rfl, HQ, HRj, HBj⟩ := hrel
        clear HRo HBl
        by_cases hjl : j < D
        · have hpq := HPl.out j hjl
          rw [← HQ.out] at hpq
          have HQ2 : Hid (q + 1 = m + (j + 1)) := (by have := HQ.out; omega : q + 1 = m + (j + 1))
          have hqD : q / D = k := by rw [HQ.out, HM.out]; exact B.place_div hjl
          have hqM : q % D = j := by rw [HQ.out, HM.out]; exact B.place_mod hjl
          have hlu : k < (UN D n b q).length := by rw [UN_len]; exact hlt
          obtain ⟨o, ho⟩ : ∃ o, o = (UN D n b q)[k]'hlu := ⟨_, rfl⟩
          have holt : o < 18446744073709551616 := by
            rw [ho]
            have h1 := UN_lt (D := D) (b := b) (q := q) hlt
            have h2 : 2 ^ D ≤ 2 ^ 64 := Nat.pow_le_pow_right (by decide) hD
            exact Nat.lt_of_lt_of_le h1 (by simpa using h2)
          have hco : wr.cell? ⟨w.heap.size, k, none⟩ = some (.int .u64 (o : Int)) := by rw [HRj.out.cell hlu, ho]
          have hfo : wr.frozen? ⟨w.heap.size, k, none⟩ = false := HRj.out.frozen _
          have hbyt : Byt wr a cap b := HB.out.below HBj.out
          obtain ⟨bb, off, rfl, hcb⟩ := hbyt.2.2.2 (q / 8) (by omega)
          have hqb : q < 8 * b.length := by omega
          have hv9 : j < 64 := by omega
          clear hbyt
          obtain ⟨c, hc⟩ : ∃ c, bitN b q = c := ⟨_, rfl⟩
          have hc1 : c ≤ 1 := by rw [← hc]; exact bitN_le b q
          obtain ⟨sh, hsh⟩ : ∃ sh, sh = c * 2 ^ j := ⟨_, rfl⟩
          have h2j : 2 ^ j < 18446744073709551616 := Nat.pow_lt_pow_right (a := 2) (m := j) (n := 64) (by decide) hv9
          have hshl : sh < 18446744073709551616 := by
            rw [hsh]
            have : c * 2 ^ j ≤ 1 * 2 ^ j := Nat.mul_le_mul_right _ hc1
            omega
          have hshi : (c : Int) * 2 ^ j % 18446744073709551616 = (sh : Int) := by
            have e : (c : Int) * 2 ^ j = ((c * 2 ^ j : Nat) : Int) := by simp
            rw [e, ← hsh]; omega
          obtain ⟨nw, hnw⟩ : ∃ nw, nw = o ||| sh := ⟨_, rfl⟩
          have hor : bits .or .u64 (o : Int) (sh : Int) = (nw : Int) := by rw [hnw]; exact (bits_nat .u64 64 (by decide) I.wraps64 o sh (by omega) (by omega)).2
          have hrow : RowAt n64 69 (wr.setCell ⟨w.heap.size, k, none⟩ (.int .u64 (nw : Int))) w.heap.size (UN D n b (q + 1)) := by
            have h1 := HRj.out.set (k := k) (v := .int .u64 (nw : Int)) nw rfl
            have h2 : (UN D n b q).set k nw = UN D n b (q + 1) := by
              rw [hnw, hsh, ← hc]
              cases hbit : B.bit8 b q
              · have : bitN b q = 0 := by unfold bitN; simp [hbit]
                rw [this, UN_same hbit, Nat.zero_mul, Nat.or_zero, ho, List.set_getElem_self]
              · have : bitN b q = 1 := by unfold bitN; simp [hbit]
                rw [this, Nat.one_mul, ho]
                have h3 := UN_set (D := D) (n := n) (b := b) (q := q) (by rw [← HS.out]; exact hpq) hbit (by omega) (by rw [hqD]; exact hlt)
                simp only [hqD, hqM] at h3
                exact h3
            rw [h2] at h1
            exact h1
          have HRow : Hid (RowAt n64 69 (wr.setCell ⟨w.heap.size, k, none⟩ (.int .u64 (nw : Int))) w.heap.size (UN D n b (q + 1))) := hrow
          have HBN : Hid (bitN b q = c) := hc
          clear hc hsh hnw hrow hqD hqM ho hlu
          go_wp2_with fail
          obtain ⟨w0, hw0⟩ : ∃ w0, w0 = wr.drew := ⟨_, rfl⟩
          have hco0 : w0.cell? ⟨w.heap.size, k, none⟩ = some (.int .u64 (o : Int)) := by rw [hw0]; exact hco
          have hcb0 : w0.cell? ⟨bb, off + q / 8, none⟩ = some (.int .u8 (M.bAt b (q / 8) : Int)) := by rw [hw0]; exact hcb
          have HCB : Hid (w0.cell? ⟨bb, off + q / 8, none⟩ = some (.int .u8 (M.bAt b (q / 8) : Int))) := hcb0
          have HW0 : Hid (w0 = wr.drew) := hw0
          clear hcb0 hw0
          have hre : ∀ w : World, (fun w w' : World => w' = w) w w := fun _ => rfl
          refine Rg.wp_rows_tail (List.take 12 _) (List.drop 12 _) (List.take_append_drop 12 _).symm [.inl (Value.slice (some { block := w.heap.size, off := 0 }) n n), .inl (Value.int IntKind.i64 ↑k), .inl (Value.pointer (some ⟨w.heap.size, k, none⟩)), .inl (Value.int IntKind.u64 ↑o), .inl (Value.slice (some { block := bb, off := off }) b.length cap), .inl (Value.int IntKind.i64 ↑q), .inl (Value.int IntKind.u8 ↑c), .inl (Value.int IntKind.u64 ↑c), .inl (Value.int IntKind.i64 ↑j), .inl (Value.int IntKind.u64 ↑sh), .inl (Value.int IntKind.u64 ↑nw), .inl (Value.pointer (some ⟨w.heap.size, k, none⟩))] (fun wx => wx = w0) (fun w w' => w' = w) 63 (by kernel_rfl) rfl (by kernel_rfl) (by kernel_rfl) (by kernel_rfl) (by decide) (by kernel_rfl) ?st hre (HW0.out).symm ?goods ?fin
          case st => exact trivial
          case goods =>
            refine Rg.goods_cons (Rg.good_move hre rfl rfl rfl) ?_
            refine Rg.goods_cons (Rg.good_move hre rfl rfl rfl) ?_
            refine Rg.goods_cons (Rg.good_index hre rfl rfl rfl rfl (fun wx hC => by subst hC; go_simp)) ?_
            refine Rg.goods_cons (Rg.good_load hre rfl rfl rfl (fun wx hC => by subst hC; go_simp)) ?_
            refine Rg.goods_cons (Rg.good_move hre rfl rfl rfl) ?_
            refine Rg.goods_cons (Rg.good_move hre rfl rfl rfl) ?_
            refine Rg.goods_cons (Rg.good_call2 Tryz.func151 (by kernel_rfl) rfl rfl rfl (by rintro u u2 wx hC rfl rfl; exact bit_row hC (bitAt_cell bb off _ cap b _ q _ rfl HCB.out rfl hlb hqb c HBN.out))) ?_
            refine Rg.goods_cons (Rg.good_conv hre rfl rfl (by rintro u wx _ rfl; go_simp; exact I.wraps64 _ (by omega) (by omega))) ?_
            refine Rg.goods_cons (Rg.good_move hre rfl rfl rfl) ?_
            refine Rg.goods_cons (Rg.good_bin hre rfl rfl rfl rfl (fun _ => rfl) (fun w => by go_simp; rw [I.w64]; exact hshi)) ?_
            refine Rg.goods_cons (Rg.good_bin hre rfl rfl rfl rfl (fun _ => rfl) (fun w => by go_simp)) ?_
            refine Rg.goods_cons (Rg.good_index hre rfl rfl rfl rfl (fun wx hC => by subst hC; go_simp)) ?_
            exact Rg.goods_nil
          case fin =>
            intro wx hx
            rw [hx, HW0.out]
            simp only [Rg.later, List.take_succ_cons, List.take_zero, List.drop_succ_cons, List.drop_zero, Act.put, List.setIfInBounds_toArray, List.set_cons_succ, List.set_cons_zero]
            go_wp2
            go_roundw
            case rel => exact ⟨j + 1, q + 1, by omega, by go_num, by go_num, HQ2, HRow.out, (HBj.out.setCell (p := ⟨w.heap.size, k, none⟩) (Nat.le_refl _) _).drew⟩
            case measure => simp [intOf]; omega
        · obtain rfl : j = D := by omega
          have hqn : q = (k + 1) * j := by rw [HNx.out, HQ.out]
          have HQN : Hid (q = (k + 1) * j) := hqn
          clear hqn
          go_wp2
          go_roundw
          case rel => exact ⟨k + 1, q, by omega, by go_num, rfl, HQN, HRj, HBj⟩
          case measure => simp [intOf]; omega
    · obtain rfl : k = n := by omega
      have hrow := HRo.out
      rw [HM.out, UN_end (Nat.le_refl _)] at hrow
      have hln : k = (B.unpack D k b).length := (B.unpack_len D k b).symm
      have HRd : Hid (Rd n64 wr (some ⟨w.heap.size, 0, none⟩) k (B.unpack D k b)) := hrow.rd hln (by omega)
      have HLn : Hid (k = (B.unpack D k b).length) := hln
      clear hln hrow
      go_wp2
      go_ret2
      exact ⟨_, rfl, ⟨some ⟨w.heap.size, 0, none⟩, k, by rw [← HLn.out]; rfl, HRd.out⟩, Fresh.at _ _ _, HBl.out⟩
set_option maxRecDepth 100000 in
theorem pack_any (a : Option Addr) (n cap : Nat) (l : List Nat) (wd : Int) (w : World) (hn : n = l.length) (hB : Rd n64 w a cap l) (h64 : ∀ x ∈ l, x < 18446744073709551616) (hl : l.length ≤ 2097152) (r : List UInt8) (e0 : Nat) (hr : B.pck l wd = (r, e0)) :
    Calls Tryz.prog 122 #[.slice a n cap, .int .i64 wd] w fun e w' => ∃ v, e = .returned (.tuple #[v, .int .i64 e0]) ∧ IsByt r v w' ∧ Fresh w.heap.size v ∧ Ex w w' := by
  subst hn
  have HB : Hid (Rd n64 w a cap l) := hB
  have H64 : Hid (∀ x ∈ l, x < 18446744073709551616) := h64
  clear hB h64
  by_cases a1 : 0 ≤ wd ∧ wd ≤ 64
  · obtain ⟨D, rfl⟩ := Int.eq_ofNat_of_zero_le (show 0 ≤ wd by omega)
    by_cases a3 : D < B.width l
    · have T1 : Hid (decide (0 ≤ (D : Int) ∧ (D : Int) ≤ 64) = true) := (by simp; omega : decide (0 ≤ (D : Int) ∧ (D : Int) ≤ 64) = true)
      have t3 : decide ((D : Int) < (B.width l : Int)) = true := by simp; omega
      unfold B.pck at hr
      rw [if_pos (by simp; omega)] at hr
      simp only [Prod.mk.injEq] at hr
      obtain ⟨rfl, rfl⟩ := hr
      go_enter Tryz.func122, Tryz.ntmps122
      go_wp2_with fail
      refine (isWidth_is _ _ true T1.out).mono ?_
      rintro e wq ⟨rfl, hw'⟩
      have hw'' := hw'.symm
      clear hw'
      subst hw''
      go_wp2_with fail
      refine (width_any a cap l _ HB.out H64.out).mono ?_
      rintro e wq ⟨rfl, hw'⟩
      have hw'' := hw'.symm
      clear hw'
      subst hw''
      go_wp2
      go_ret2
      exact ⟨_, rfl, IsByt.nil _, Fresh.nil _, Ex.refl _⟩
    · rw [B.pck_ok (by omega) (by omega)] at hr
      simp only [Prod.mk.injEq] at hr
      obtain ⟨rfl, rfl⟩ := hr
      exact pack_main a cap l D w HB.out H64.out hl (by omega) (by omega)
  · have T1 : Hid (decide (0 ≤ wd ∧ wd ≤ 64) = false) := (by simp; omega : decide (0 ≤ wd ∧ wd ≤ 64) = false)
    unfold B.pck at hr
    rw [if_pos (by omega)] at hr
    simp only [Prod.mk.injEq] at hr
    obtain ⟨rfl, rfl⟩ := hr
    go_enter Tryz.func122, Tryz.ntmps122
    go_wp2_with fail
    refine (isWidth_is _ _ false T1.out).mono ?_
    rintro e wq ⟨rfl, hw'⟩
    have hw'' := hw'.symm
    clear hw'
    subst hw''
    go_wp2
    go_ret2
    exact ⟨_, rfl, IsByt.nil _, Fresh.nil _, Ex.refl _⟩

set_option maxRecDepth 100000 in
theorem unpack_any (a : Option Addr) (len cap : Nat) (b : List UInt8) (n wd : Int) (w : World) (hlen : len = b.length) (hB : Byt w a cap b) (hbl : b.length ≤ 140737488351232) (n1 : -9223372036854775808 ≤ n) (n2 : n ≤ 9223372036854775807) (d1 : -9223372036854775808 ≤ wd) (d2 : wd ≤ 9223372036854775807) (r : List Nat) (e0 : Nat) (hr : B.unp b n wd = (r, e0)) :
    Calls Tryz.prog 139 #[.slice a len cap, .int .i64 n, .int .i64 wd] w fun e w' => ∃ v, e = .returned (.tuple #[v, .int .i64 e0]) ∧ IsRd n64 r v w' ∧ Fresh w.heap.size v ∧ Ex w w' := by
  subst hlen
  have HB : Hid (Byt w a cap b) := hB
  clear hB
  unfold B.unp at hr
  by_cases a1 : 0 ≤ wd ∧ wd ≤ 64
  · have T1 : Hid (decide (0 ≤ wd ∧ wd ≤ 64) = true) := (by simp; omega : decide (0 ≤ wd ∧ wd ≤ 64) = true)
    rw [if_neg (by omega)] at hr
    by_cases a2 : 0 ≤ n ∧ n ≤ 16777216
    · have T2 : Hid (decide (0 ≤ n ∧ n ≤ 16777216) = true) := (by simp; omega : decide (0 ≤ n ∧ n ≤ 16777216) = true)
      rw [if_neg (by omega)] at hr
      obtain ⟨N, rfl⟩ := Int.eq_ofNat_of_zero_le (show 0 ≤ n by omega)
      obtain ⟨D, rfl⟩ := Int.eq_ofNat_of_zero_le (show 0 ≤ wd by omega)
      simp only [Int.toNat_natCast] at hr
      have hsz : B.siz N D = B.size N D := by unfold B.siz; rw [if_neg (by omega)]; rfl
      obtain ⟨z, hz⟩ : ∃ z, z = B.size N D := ⟨_, rfl⟩
      rw [← hz] at hr hsz
      have HSz : Hid (B.siz N D = z) := hsz
      have HZ : Hid (z = B.size N D) := hz
      clear hsz
      by_cases a5 : b.length < z
      · have t5 : decide ((b.length : Int) < (z : Int)) = true := by simp; omega
        rw [if_pos a5] at hr
        simp only [Prod.mk.injEq] at hr
        obtain ⟨rfl, rfl⟩ := hr
        clear hz
        go_enter Tryz.func139, Tryz.ntmps139
        go_wp2_with fail
        refine (isWidth_is _ _ true T1.out).mono ?_
        rintro e wq ⟨rfl, hw'⟩
        have hw'' := hw'.symm
        clear hw'
        subst hw''
        go_wp2_with fail
        refine (isCount_is _ _ true T2.out).mono ?_
        rintro e wq ⟨rfl, hw'⟩
        have hw'' := hw'.symm
        clear hw'
        subst hw''
        go_wp2_with fail
        refine (ssize_is _ _ z _ (by omega) (by omega) (by omega) (by omega) HSz.out).mono ?_
        rintro e wq ⟨rfl, hw'⟩
        have hw'' := hw'.symm
        clear hw'
        subst hw''
        go_wp2
        go_ret2
        exact ⟨_, rfl, IsRd.nil _, Fresh.nil _, Ex.refl _⟩
      · have t5 : decide ((b.length : Int) < (z : Int)) = false := by simp; omega
        rw [if_neg a5] at hr
        by_cases a6 : z < b.length
        · have t6 : decide ((z : Int) < (b.length : Int)) = true := by simp; omega
          rw [if_pos a6] at hr
          simp only [Prod.mk.injEq] at hr
          obtain ⟨rfl, rfl⟩ := hr
          clear hz
          go_enter Tryz.func139, Tryz.ntmps139
          go_wp2_with fail
          refine (isWidth_is _ _ true T1.out).mono ?_
          rintro e wq ⟨rfl, hw'⟩
          have hw'' := hw'.symm
          clear hw'
          subst hw''
          go_wp2_with fail
          refine (isCount_is _ _ true T2.out).mono ?_
          rintro e wq ⟨rfl, hw'⟩
          have hw'' := hw'.symm
          clear hw'
          subst hw''
          go_wp2_with fail
          refine (ssize_is _ _ z _ (by omega) (by omega) (by omega) (by omega) HSz.out).mono ?_
          rintro e wq ⟨rfl, hw'⟩
          have hw'' := hw'.symm
          clear hw'
          subst hw''
          go_wp2
          go_ret2
          exact ⟨_, rfl, IsRd.nil _, Fresh.nil _, Ex.refl _⟩
        · rw [if_neg a6] at hr
          have hzb : b.length = B.size N D := by omega
          have hb8 : 8 * b.length < N * D + 8 := by rw [hzb]; exact B.size_lt N D
          have hb9 : N * D ≤ 8 * b.length := by rw [hzb]; exact B.size_le N D
          have hm : N * D ≤ 16777216 * 64 := Nat.mul_le_mul (by omega) (by omega)
          cases hleft : B.left D N b
          · rw [hleft] at hr
            simp only [Bool.false_eq_true, if_false, Prod.mk.injEq] at hr
            obtain ⟨rfl, rfl⟩ := hr
            exact unpack_main a cap b N D w HB.out (by omega) (by omega) hzb hleft
          · rw [hleft] at hr
            simp only [if_true, Prod.mk.injEq] at hr
            obtain ⟨rfl, rfl⟩ := hr
            obtain rfl : z = b.length := by omega
            obtain ⟨S, hS⟩ : ∃ S, S = N * D := ⟨_, rfl⟩
            have hSi : (N : Int) * (D : Int) = (S : Int) := by rw [hS]; simp
            have HS : Hid (S = N * D) := hS
            have HL : Hid (B.left D N b = true) := hleft
            rw [← hS] at hb8 hb9 hm
            clear hz hzb hleft hS
            have hlb : b.length ≤ 134217729 := by omega
            go_enter Tryz.func139, Tryz.ntmps139
            go_wp2_with fail
            refine (isWidth_is _ _ true T1.out).mono ?_
            rintro e wq ⟨rfl, hw'⟩
            have hw'' := hw'.symm
            clear hw'
            subst hw''
            go_wp2_with fail
            refine (isCount_is _ _ true T2.out).mono ?_
            rintro e wq ⟨rfl, hw'⟩
            have hw'' := hw'.symm
            clear hw'
            subst hw''
            go_wp2_with fail
            refine (ssize_is _ _ b.length _ (by omega) (by omega) (by omega) (by omega) HSz.out).mono ?_
            rintro e wq ⟨rfl, hw'⟩
            have hw'' := hw'.symm
            clear hw'
            subst hw''
            go_wp2_with fail
            refine (hasBits_any a cap b D N S _ HB.out HS.out hlb hb9).mono ?_
            rintro e wq ⟨rfl, hw'⟩
            have hw'' := hw'.symm
            clear hw'
            subst hw''
            rw [HL.out]
            go_wp2
            go_ret2
            exact ⟨_, rfl, IsRd.nil _, Fresh.nil _, Ex.refl _⟩
    · have T2 : Hid (decide (0 ≤ n ∧ n ≤ 16777216) = false) := (by simp; omega : decide (0 ≤ n ∧ n ≤ 16777216) = false)
      rw [if_pos (by omega)] at hr
      simp only [Prod.mk.injEq] at hr
      obtain ⟨rfl, rfl⟩ := hr
      go_enter Tryz.func139, Tryz.ntmps139
      go_wp2_with fail
      refine (isWidth_is _ _ true T1.out).mono ?_
      rintro e wq ⟨rfl, hw'⟩
      have hw'' := hw'.symm
      clear hw'
      subst hw''
      go_wp2_with fail
      refine (isCount_is _ _ false T2.out).mono ?_
      rintro e wq ⟨rfl, hw'⟩
      have hw'' := hw'.symm
      clear hw'
      subst hw''
      go_wp2
      go_ret2
      exact ⟨_, rfl, IsRd.nil _, Fresh.nil _, Ex.refl _⟩
  · have T1 : Hid (decide (0 ≤ wd ∧ wd ≤ 64) = false) := (by simp; omega : decide (0 ≤ wd ∧ wd ≤ 64) = false)
    rw [if_pos (by omega)] at hr
    simp only [Prod.mk.injEq] at hr
    obtain ⟨rfl, rfl⟩ := hr
    go_enter Tryz.func139, Tryz.ntmps139
    go_wp2_with fail
    refine (isWidth_is _ _ false T1.out).mono ?_
    rintro e wq ⟨rfl, hw'⟩
    have hw'' := hw'.symm
    clear hw'
    subst hw''
    go_wp2
    go_ret2
    exact ⟨_, rfl, IsRd.nil _, Fresh.nil _, Ex.refl _⟩
end Go.Proofs.YtnmonoafjijfhaaGreat
namespace Go.Proofs.YtnmonoafjijfhaaGreat
open Go.RowKit
set_option linter.unusedVariables false

theorem width_is (a : Option Addr) (n cap : Nat) (l : List Nat) (w : World) (hn : n = l.length) (hB : Rd n64 w a cap l) (h64 : ∀ x ∈ l, x < 18446744073709551616) (hl : l.length ≤ 2097152) (r : Nat) (hr : B.width l = r) :
    Calls Tryz.prog 72 #[.slice a n cap] w fun e w' => e = .returned (.int .i64 r) ∧ Ex w w' := by
  subst hn; subst hr
  exact (width_any a cap l w hB h64).mono fun e w' h => ⟨h.1, h.2 ▸ Ex.refl _⟩
theorem pack_is (a : Option Addr) (n cap : Nat) (l : List Nat) (wd : Int) (w : World) (hn : n = l.length) (hB : Rd n64 w a cap l) (h64 : ∀ x ∈ l, x < 18446744073709551616) (hl : l.length ≤ 2097152) (d1 : -9223372036854775808 ≤ wd) (d2 : wd ≤ 9223372036854775807) (r : List UInt8) (e0 : Nat) (hr : B.pck l wd = (r, e0)) :
    Calls Tryz.prog 122 #[.slice a n cap, .int .i64 wd] w fun e w' => ∃ v, e = .returned (.tuple #[v, .int .i64 e0]) ∧ IsByt r v w' ∧ Fresh w.heap.size v ∧ Ex w w' :=
  pack_any a n cap l wd w hn hB h64 hl r e0 hr
theorem unpack_is (a : Option Addr) (len cap : Nat) (b : List UInt8) (n wd : Int) (w : World) (hlen : len = b.length) (hB : Byt w a cap b) (hbl : b.length ≤ 140737488351232) (n1 : -9223372036854775808 ≤ n) (n2 : n ≤ 9223372036854775807) (d1 : -9223372036854775808 ≤ wd) (d2 : wd ≤ 9223372036854775807) (r : List Nat) (e0 : Nat) (hr : B.unp b n wd = (r, e0)) :
    Calls Tryz.prog 139 #[.slice a len cap, .int .i64 n, .int .i64 wd] w fun e w' => ∃ v, e = .returned (.tuple #[v, .int .i64 e0]) ∧ IsRd n64 r v w' ∧ Fresh w.heap.size v ∧ Ex w w' :=
  unpack_any a len cap b n wd w hlen hB hbl n1 n2 d1 d2 r e0 hr
end Go.Proofs.YtnmonoafjijfhaaGreat
