/-
  The walk of the law SumMixes: whatever bytes it is given, it returns true.
-/
import Derived.Test.YtjokipdibbhmlaaParts
namespace Go.Proofs.Ytjokipdibbhmlaa.sumMixes
open Go.RowKit
set_option linter.unusedVariables false

theorem same_of {f : FuncId} {args : Array Value} {w0 w : World} {v : Value} (h : Calls Try.prog f args w fun e w' => e = .returned v ∧ w' = w) (hC : Ex w0 w) :
    Calls Try.prog f args w (fun e w' => ∃ v', e = .returned v' ∧ Rg.Spec.ok (.inl v) v' w' ∧ Ex w w' ∧ Ex w0 w') :=
  h.mono fun e w' ⟨he, hw⟩ => ⟨v, he, rfl, hw ▸ Ex.refl _, hw ▸ hC⟩

set_option maxRecDepth 100000 in
set_option maxHeartbeats 4000000 in
theorem walk_a (p0 : Option Addr) (c0 : Nat) (l0 : List UInt8) (p1 : Option Addr) (c1 : Nat) (l1 : List UInt8) (a2 : Int) (w : World) (b0 : Byt w p0 c0 l0) (b1 : Byt w p1 c1 l1) (w2 : 0 ≤ a2 ∧ a2 ≤ 255) (h1 : l0.length ≤ l1.length) (h2 : l0.length ≤ 2000) :
    Calls Try.prog 6 #[.slice p0 l0.length c0, .slice p1 l1.length c1, .int .u8 a2] w fun e w' => e = .returned (.bool true) ∧ Below w.heap.size w w' := by
  obtain ⟨x, rfl⟩ := Int.eq_ofNat_of_zero_le w2.1
  have hx : x < 256 := by omega
  have hcl0 := b0.1
  have hcm0 := b0.2.1
  have hcl1 := b1.1
  have hcm1 := b1.2.1
  have hln0 : l0.length ≤ 9223372036854775807 := by unfold maxLen at hcm0; omega
  have hln1 : l1.length ≤ 9223372036854775807 := by unfold maxLen at hcm1; omega
  have t1 : decide ((l1.length : Int) < (l0.length : Int)) = false := by simp; omega
  have t2 : decide ((2000 : Int) < (l0.length : Int)) = false := by simp; omega
  have hk0 : l0.length ≤ l0.length := by omega
  have hk1 : l0.length ≤ l1.length := by omega
  have hk2 : l0.length ≤ 2000 := by omega
  obtain ⟨A, eA⟩ : ∃ A, A = l0.take l0.length := ⟨_, rfl⟩
  obtain ⟨B, eB⟩ : ∃ B, B = l1.take l0.length := ⟨_, rfl⟩
  obtain ⟨C, eC⟩ : ∃ C, C = rise x l0.length := ⟨_, rfl⟩
  obtain ⟨D, eD⟩ : ∃ D, D = S.mix (S.mix A B) C := ⟨_, rfl⟩
  have hAn : l0.length = A.length := by rw [eA]; simp <;> omega
  have hBn : l0.length = B.length := by rw [eB]; simp <;> omega
  have hCn : l0.length = C.length := by rw [eC, rise_len]
  have hMn : (S.mix A B).length = A.length := S.mix_len _ _ (by omega)
  have hDn : l0.length = D.length := by rw [eD, S.mix_len _ _ (by omega)]; omega
  have hbA : Byt w p0 c0 A := by rw [eA]; exact b0.take hk0
  have hbB : Byt w p1 c1 B := by rw [eB]; exact b1.take hk1
  have hCat : ∀ k, k < l0.length → M.bAt C k = (x + k) % 256 := fun k hk => by rw [eC, rise_at x _ k hk]
  have hDat : ∀ k, k < l0.length → M.bAt D k = M.bAt l0 k ^^^ M.bAt l1 k ^^^ M.bAt C k := fun k hk => by
    rw [eD, bAt_mix _ _ k (by omega) (by omega), bAt_mix _ _ k (by omega) (by omega), eA, eB, bAt_take _ _ _ hk, bAt_take _ _ _ hk]
  have hmix := S.crc_mix A B C (by omega) (by omega)
  rw [← eD] at hmix
  have HCat : Hid (∀ k, k < l0.length → M.bAt C k = (x + k) % 256) := hCat
  have HDat : Hid (∀ k, k < l0.length → M.bAt D k = M.bAt l0 k ^^^ M.bAt l1 k ^^^ M.bAt C k) := hDat
  have HAn : Hid (l0.length = A.length) := hAn
  have HBn : Hid (l0.length = B.length) := hBn
  have HCn : Hid (l0.length = C.length) := hCn
  have HDn : Hid (l0.length = D.length) := hDn
  obtain ⟨ca, ea⟩ : ∃ c, c = S.crc A := ⟨_, rfl⟩
  obtain ⟨cb, eb⟩ : ∃ c, c = S.crc B := ⟨_, rfl⟩
  obtain ⟨cc, ec⟩ : ∃ c, c = S.crc C := ⟨_, rfl⟩
  obtain ⟨cd, ed⟩ : ∃ c, c = S.crc D := ⟨_, rfl⟩
  have hla : ca < 4294967296 := by rw [ea]; exact S.crc_lt _
  have hlb : cb < 4294967296 := by rw [eb]; exact S.crc_lt _
  have hlc : cc < 4294967296 := by rw [ec]; exact S.crc_lt _
  obtain ⟨cab, eab⟩ : ∃ c, c = ca ^^^ cb := ⟨_, rfl⟩
  have hx1 : bits .xor .u32 (ca : Int) (cb : Int) = (cab : Int) := by rw [eab]; exact I.xor32 _ _ ca cb rfl rfl hla hlb
  have hx2 : bits .xor .u32 (cab : Int) (cc : Int) = (cd : Int) := by
    rw [I.xor32 _ _ cab cc rfl rfl (by rw [eab]; exact S.xlt hla hlb) hlc, eab, ed, ← hmix, ← ea, ← eb, ← ec]
  have HX1 : Hid (bits .xor .u32 (ca : Int) (cb : Int) = (cab : Int)) := hx1
  have HX2 : Hid (bits .xor .u32 (cab : Int) (cc : Int) = (cd : Int)) := hx2
  have HA : Hid (ca = S.crc A) := ea
  have HB : Hid (cb = S.crc B) := eb
  have HC : Hid (cc = S.crc C) := ec
  have HD : Hid (cd = S.crc D) := ed
  have HbA : Hid (Byt w p0 c0 A) := hbA
  have HbB : Hid (Byt w p1 c1 B) := hbB
  have Hb0 : Hid (Byt w p0 c0 l0) := b0
  have Hb1 : Hid (Byt w p1 c1 l1) := b1
  obtain ⟨ZC, hZC⟩ : ∃ Z, Z = (cs (part C 0)).toArray := ⟨_, rfl⟩
  have eZC : (cs (List.replicate l0.length 0)).toArray = ZC := by rw [hZC, part_start, ← hCn]
  have EZC : Hid ((cs (List.replicate l0.length 0)).toArray = ZC) := eZC
  have HZC : Hid (ZC = (cs (part C 0)).toArray) := hZC
  have eZD : ZC = (cs (part D 0)).toArray := by rw [hZC, part_start, part_start, ← hCn, ← hDn]
  have HZD : Hid (ZC = (cs (part D 0)).toArray) := eZD
  clear eA eB eC eD hAn hBn hCn hDn hMn hbA hbB hCat hDat hmix ea eb ec ed eab hx1 hx2 b0 b1 hZC eZC eZD hla hlb hlc
  go_enter Try.func6, Try.ntmps6
  go_wp2_with (first
    | (at_make; have _t := hg1; refine wpList_make_zero rfl _ _ rfl _ _ l0.length rfl rfl (by omega) (by omega) (by omega) ?_; intro w5 hg5 hb5; rw [EZC.out] at hg5)
    | (at_make; refine wpList_make_zero rfl _ _ rfl _ _ l0.length rfl rfl (by omega) (by omega) (by omega) ?_; intro w4 hg1 hb1; rw [EZC.out] at hg1))
  have hlt4 : w.heap.size < w4.heap.size := (Array.getElem?_eq_some_iff.1 hg1).1
  have hg4 : w5.heap[w.heap.size]? = some (Obj.cells ZC 5) := by rw [hb5.block _ hlt4]; exact hg1
  have hbel5 : Below w.heap.size w w5 := hb1.trans (hb5.mono (by omega))
  clear hg1 _t hb1 hb5
  generalize ehh : w4.heap.size = hh at hg5 hlt4 ⊢
  clear ehh
  have HG4 : Hid (w5.heap[w.heap.size]? = some (.cells (cs (part C 0)).toArray 5 (0, 0))) := (by rw [← HZC.out]; exact hg4 : w5.heap[w.heap.size]? = some (.cells (cs (part C 0)).toArray 5 (0, 0)))
  have HG5 : Hid (w5.heap[hh]? = some (.cells (cs (part D 0)).toArray 5 (0, 0))) := (by rw [← HZD.out]; exact hg5 : w5.heap[hh]? = some (.cells (cs (part D 0)).toArray 5 (0, 0)))
  clear hg4 hg5 EZC HZC HZD
  go_loopw [10] (fun i wr => ∃ k : Nat, k ≤ l0.length ∧ i = .int .i64 k ∧ Hid (wr.heap[w.heap.size]? = some (.cells (cs (part C k)).toArray 5 (0, 0))) ∧ Hid (wr.heap[hh]? = some (.cells (cs (part D k)).toArray 5 (0, 0))) ∧ Hid (Below w.heap.size w wr)) (fun i _ => l0.length - (intOf i).toNat)
  case atStart => exact ⟨0, by omega, rfl, HG4, HG5, hbel5⟩
  case round =>
    obtain ⟨k, hk, rfl, HRC, HRD, HBl⟩ := hrel
    clear HG4 HG5 hbel5
    by_cases hlt : k < l0.length
    · obtain ⟨q0, o0, rfl, hcA⟩ := Hb0.out.2.2.2 k (by omega)
      obtain ⟨q1, o1, rfl, hcB⟩ := Hb1.out.2.2.2 k (by omega)
      have hqa := World.block_lt_of_cell? w _ hcA
      have hqb := World.block_lt_of_cell? w _ hcB
      have hqa' : q0 < w.heap.size := hqa
      have hqb' : q1 < w.heap.size := hqb
      have hcA2 : wr.cell? ⟨q0, o0 + k, none⟩ = some (.int .u8 (M.bAt l0 k)) := by rw [HBl.out.cell (p := ⟨q0, o0 + k, none⟩) hqa]; exact hcA
      have hcB2 : wr.cell? ⟨q1, o1 + k, none⟩ = some (.int .u8 (M.bAt l1 k)) := by rw [HBl.out.cell (p := ⟨q1, o1 + k, none⟩) hqb]; exact hcB
      clear hcA hcB hqa hqb
      have hkC : k < C.length := by have := HCn.out; omega
      have hkD : k < D.length := by have := HDn.out; omega
      have hc1 := row_cell HRC.out (k := k) (by rw [part_len _ _ (by omega)]; omega)
      have hf1 : wr.frozen? ⟨w.heap.size, k, none⟩ = false := frozen_of_row _ _ _ _ _ HRC.out
      have hi0 : (k : Int) < (l0.length : Int) := by omega
      have hi1 : (k : Int) < (l1.length : Int) := by omega
      have hiN : (k : Int) < (l0.length : Int) := by omega
      have hCk := HCat.out k hlt
      have hXC : ((x : Int) + (k : Int)) % 256 = (M.bAt C k : Int) := by omega
      obtain ⟨w6, hw6⟩ : ∃ w6, wr.setCell ⟨w.heap.size, k, none⟩ (.int .u8 (((x : Int) + (k : Int)) % 256)) = w6 := ⟨_, rfl⟩
      have hr6C : w6.heap[w.heap.size]? = some (.cells (cs (part C (k + 1))).toArray 5 (0, 0)) := by rw [← hw6]; exact row_step HRC.out hXC hkC
      have hr6D : w6.heap[hh]? = some (.cells (cs (part D k)).toArray 5 (0, 0)) := by rw [← hw6]; exact row_other HRD.out (by omega)
      have hb6 : Below w.heap.size w w6 := by rw [← hw6]; exact HBl.out.setCell (Nat.le_refl _) _
      have h6A : w6.cell? ⟨q0, o0 + k, none⟩ = some (.int .u8 (M.bAt l0 k)) := by
        rw [← hw6]; exact (cell_other wr _ (by omega)).trans hcA2
      have h6B : w6.cell? ⟨q1, o1 + k, none⟩ = some (.int .u8 (M.bAt l1 k)) := by
        rw [← hw6]; exact (cell_other wr _ (by omega)).trans hcB2
      have h6C : w6.cell? ⟨w.heap.size, k, none⟩ = some (.int .u8 (M.bAt C k)) := by
        rw [row_cell hr6C (by rw [part_len _ _ (by omega)]; omega), bAt_part C k hkC]
      have h6D := row_cell hr6D (k := k) (by rw [part_len _ _ (by omega)]; omega)
      have h6f : w6.frozen? ⟨hh, k, none⟩ = false := frozen_of_row _ _ _ _ _ hr6D
      have HR6C : Hid (w6.heap[w.heap.size]? = some (.cells (cs (part C (k + 1))).toArray 5 (0, 0))) := hr6C
      have HR6D : Hid (w6.heap[hh]? = some (.cells (cs (part D k)).toArray 5 (0, 0))) := hr6D
      have HB6 : Hid (Below w.heap.size w w6) := hb6
      have HW6 : Hid (wr.setCell ⟨w.heap.size, k, none⟩ (.int .u8 (((x : Int) + (k : Int)) % 256)) = w6) := hw6
      have hxD : bits .xor .u8 (bits .xor .u8 (M.bAt l0 k : Int) (M.bAt l1 k : Int)) (M.bAt C k : Int) = (M.bAt D k : Int) := by
        rw [xor3 _ _ _ (M.bAt_lt _ _) (M.bAt_lt _ _) (M.bAt_lt _ _), HDat.out k hlt]
      have HXD : Hid (bits .xor .u8 (bits .xor .u8 (M.bAt l0 k : Int) (M.bAt l1 k : Int)) (M.bAt C k : Int) = (M.bAt D k : Int)) := hxD
      clear hr6C hr6D hb6 hw6 hxD hXC hCk
      go_wp2_with fail
      rw [HW6.out]
      clear hcA2 hcB2 hc1 hf1 HRC HRD HBl HW6
      go_big_region
      go_wp2
      go_roundw
      case rel => exact ⟨k + 1, by omega, by go_num, row_other (o := .cells (cs (part C (k + 1))).toArray 5 (0, 0)) HR6C.out (by omega), row_step HR6D.out HXD.out hkD, (HB6.out.setCell (p := ⟨hh, k, none⟩) (by show w.heap.size ≤ hh; omega) _).drew⟩
      case measure => simp [intOf]; omega
    · obtain rfl : k = l0.length := by omega
      have hBC : Byt wr (some ⟨w.heap.size, 0, none⟩) l0.length C := by
        have h := HRC.out
        rw [HCn.out, part_end] at h
        exact row_byt h HCn.out (by omega)
      have hBD : Byt wr (some ⟨hh, 0, none⟩) l0.length D := by
        have h := HRD.out
        rw [HDn.out, part_end] at h
        exact row_byt h HDn.out (by omega)
      have HC3 : Hid (Byt wr (some ⟨w.heap.size, 0, none⟩) l0.length C) := hBC
      have HD3 : Hid (Byt wr (some ⟨hh, 0, none⟩) l0.length D) := hBD
      have HA3 : Hid (Byt wr p0 c0 A) := HbA.out.below HBl.out
      have HB3 : Hid (Byt wr p1 c1 B) := HbB.out.below HBl.out
      clear hBC hBD HRC HRD HbA HbB Hb0 Hb1
      go_wp2_with fail
      have hre := Ex.refl
      refine Rg.wp_rows [.inl (Value.slice p0 l0.length c0), .inl (Value.int IntKind.i64 ↑l0.length), .inl (Value.slice p0 l0.length c0), .inl (Value.int IntKind.u32 ↑ca), .inl (Value.slice p1 l1.length c1), .inl (Value.int IntKind.i64 ↑l0.length), .inl (Value.slice p1 l0.length c1), .inl (Value.int IntKind.u32 ↑cb), .inl (Value.int IntKind.u32 ↑cab), .inl (Value.slice (some { block := w.heap.size, off := 0 }) l0.length l0.length), .inl (Value.int IntKind.u32 ↑cc), .inl (Value.int IntKind.u32 ↑cd), .inl (Value.slice (some { block := hh, off := 0 }) l0.length l0.length), .inl (Value.int IntKind.u32 ↑cd), .inl (.bool true), .inl (.bool true), .inl (.bool true), .inl (.bool true), .inl (.bool true)] (Ex wr) Ex 72 (by kernel_rfl) rfl (by kernel_rfl) ?st hre (Ex.drew _) ?goods ?fin
      case st => exact trivial
      case goods =>
        refine Rg.goods_cons (Rg.good_move hre rfl rfl rfl) ?_
        refine Rg.goods_cons (Rg.good_move hre rfl rfl rfl) ?_
        refine Rg.goods_cons (Rg.good_slice2 hre rfl rfl rfl (by rintro u wx hC rfl; exact ⟨_, slice_row p0 _ c0 l0.length wx (by omega) hcm0, rfl⟩)) ?_
        refine Rg.goods_cons (Rg.good_call1 Try.func8 (by kernel_rfl) rfl rfl rfl (by rintro u wx hC rfl; exact same_of (crc_is p0 _ c0 A _ wx (HA3.out.below hC) HAn.out HA.out.symm) hC)) ?_
        refine Rg.goods_cons (Rg.good_move hre rfl rfl rfl) ?_
        refine Rg.goods_cons (Rg.good_move hre rfl rfl rfl) ?_
        refine Rg.goods_cons (Rg.good_slice2 hre rfl rfl rfl (by rintro u wx hC rfl; exact ⟨_, slice_row p1 _ c1 l0.length wx (by omega) hcm1, rfl⟩)) ?_
        refine Rg.goods_cons (Rg.good_call1 Try.func8 (by kernel_rfl) rfl rfl rfl (by rintro u wx hC rfl; exact same_of (crc_is p1 _ c1 B _ wx (HB3.out.below hC) HBn.out HB.out.symm) hC)) ?_
        refine Rg.goods_cons (Rg.good_bin hre rfl rfl rfl rfl (fun _ => rfl) (fun w => by simp only [go_sem, HX1.out, Sem.run_pure])) ?_
        refine Rg.goods_cons (Rg.good_move hre rfl rfl rfl) ?_
        refine Rg.goods_cons (Rg.good_call1 Try.func8 (by kernel_rfl) rfl rfl rfl (by rintro u wx hC rfl; exact same_of (crc_is _ _ _ C _ wx (HC3.out.below hC) HCn.out HC.out.symm) hC)) ?_
        refine Rg.goods_cons (Rg.good_bin hre rfl rfl rfl rfl (fun _ => rfl) (fun w => by simp only [go_sem, HX2.out, Sem.run_pure])) ?_
        refine Rg.goods_cons (Rg.good_move hre rfl rfl rfl) ?_
        refine Rg.goods_cons (Rg.good_call1 Try.func8 (by kernel_rfl) rfl rfl rfl (by rintro u wx hC rfl; exact same_of (crc_is _ _ _ D _ wx (HD3.out.below hC) HDn.out HD.out.symm) hC)) ?_
        refine Rg.goods_cons (Rg.good_bin hre rfl rfl rfl rfl (fun _ => rfl) (fun w => by go_simp)) ?_
        refine Rg.goods_cons (Rg.good_move hre rfl rfl rfl) ?_
        refine Rg.goods_cons (Rg.good_call0 Try.func10 (by kernel_rfl) rfl rfl rfl (by exact fun wx hC => known_row wx hC)) ?_
        refine Rg.goods_cons (Rg.good_pick true hre rfl rfl rfl rfl) ?_
        refine Rg.goods_cons (Rg.good_assign hre rfl rfl rfl) ?_
        exact Rg.goods_nil
      case fin =>
        intro wx hx
        simp only [Rg.later, Act.put, List.setIfInBounds_toArray, List.set_cons_succ, List.set_cons_zero]
        go_wp2
        go_ret
        exact ⟨rfl, Ex.trans HBl.out hx⟩

set_option maxRecDepth 100000 in
set_option maxHeartbeats 4000000 in
theorem walk_b (p0 : Option Addr) (c0 : Nat) (l0 : List UInt8) (p1 : Option Addr) (c1 : Nat) (l1 : List UInt8) (a2 : Int) (w : World) (b0 : Byt w p0 c0 l0) (b1 : Byt w p1 c1 l1) (w2 : 0 ≤ a2 ∧ a2 ≤ 255) (h1 : l1.length < l0.length) (h2 : l1.length ≤ 2000) :
    Calls Try.prog 6 #[.slice p0 l0.length c0, .slice p1 l1.length c1, .int .u8 a2] w fun e w' => e = .returned (.bool true) ∧ Below w.heap.size w w' := by
  obtain ⟨x, rfl⟩ := Int.eq_ofNat_of_zero_le w2.1
  have hx : x < 256 := by omega
  have hcl0 := b0.1
  have hcm0 := b0.2.1
  have hcl1 := b1.1
  have hcm1 := b1.2.1
  have hln0 : l0.length ≤ 9223372036854775807 := by unfold maxLen at hcm0; omega
  have hln1 : l1.length ≤ 9223372036854775807 := by unfold maxLen at hcm1; omega
  have t1 : decide ((l1.length : Int) < (l0.length : Int)) = true := by simp; omega
  have t2 : decide ((2000 : Int) < (l1.length : Int)) = false := by simp; omega
  have hk0 : l1.length ≤ l0.length := by omega
  have hk1 : l1.length ≤ l1.length := by omega
  have hk2 : l1.length ≤ 2000 := by omega
  obtain ⟨A, eA⟩ : ∃ A, A = l0.take l1.length := ⟨_, rfl⟩
  obtain ⟨B, eB⟩ : ∃ B, B = l1.take l1.length := ⟨_, rfl⟩
  obtain ⟨C, eC⟩ : ∃ C, C = rise x l1.length := ⟨_, rfl⟩
  obtain ⟨D, eD⟩ : ∃ D, D = S.mix (S.mix A B) C := ⟨_, rfl⟩
  have hAn : l1.length = A.length := by rw [eA]; simp <;> omega
  have hBn : l1.length = B.length := by rw [eB]; simp <;> omega
  have hCn : l1.length = C.length := by rw [eC, rise_len]
  have hMn : (S.mix A B).length = A.length := S.mix_len _ _ (by omega)
  have hDn : l1.length = D.length := by rw [eD, S.mix_len _ _ (by omega)]; omega
  have hbA : Byt w p0 c0 A := by rw [eA]; exact b0.take hk0
  have hbB : Byt w p1 c1 B := by rw [eB]; exact b1.take hk1
  have hCat : ∀ k, k < l1.length → M.bAt C k = (x + k) % 256 := fun k hk => by rw [eC, rise_at x _ k hk]
  have hDat : ∀ k, k < l1.length → M.bAt D k = M.bAt l0 k ^^^ M.bAt l1 k ^^^ M.bAt C k := fun k hk => by
    rw [eD, bAt_mix _ _ k (by omega) (by omega), bAt_mix _ _ k (by omega) (by omega), eA, eB, bAt_take _ _ _ hk, bAt_take _ _ _ hk]
  have hmix := S.crc_mix A B C (by omega) (by omega)
  rw [← eD] at hmix
  have HCat : Hid (∀ k, k < l1.length → M.bAt C k = (x + k) % 256) := hCat
  have HDat : Hid (∀ k, k < l1.length → M.bAt D k = M.bAt l0 k ^^^ M.bAt l1 k ^^^ M.bAt C k) := hDat
  have HAn : Hid (l1.length = A.length) := hAn
  have HBn : Hid (l1.length = B.length) := hBn
  have HCn : Hid (l1.length = C.length) := hCn
  have HDn : Hid (l1.length = D.length) := hDn
  obtain ⟨ca, ea⟩ : ∃ c, c = S.crc A := ⟨_, rfl⟩
  obtain ⟨cb, eb⟩ : ∃ c, c = S.crc B := ⟨_, rfl⟩
  obtain ⟨cc, ec⟩ : ∃ c, c = S.crc C := ⟨_, rfl⟩
  obtain ⟨cd, ed⟩ : ∃ c, c = S.crc D := ⟨_, rfl⟩
  have hla : ca < 4294967296 := by rw [ea]; exact S.crc_lt _
  have hlb : cb < 4294967296 := by rw [eb]; exact S.crc_lt _
  have hlc : cc < 4294967296 := by rw [ec]; exact S.crc_lt _
  obtain ⟨cab, eab⟩ : ∃ c, c = ca ^^^ cb := ⟨_, rfl⟩
  have hx1 : bits .xor .u32 (ca : Int) (cb : Int) = (cab : Int) := by rw [eab]; exact I.xor32 _ _ ca cb rfl rfl hla hlb
  have hx2 : bits .xor .u32 (cab : Int) (cc : Int) = (cd : Int) := by
    rw [I.xor32 _ _ cab cc rfl rfl (by rw [eab]; exact S.xlt hla hlb) hlc, eab, ed, ← hmix, ← ea, ← eb, ← ec]
  have HX1 : Hid (bits .xor .u32 (ca : Int) (cb : Int) = (cab : Int)) := hx1
  have HX2 : Hid (bits .xor .u32 (cab : Int) (cc : Int) = (cd : Int)) := hx2
  have HA : Hid (ca = S.crc A) := ea
  have HB : Hid (cb = S.crc B) := eb
  have HC : Hid (cc = S.crc C) := ec
  have HD : Hid (cd = S.crc D) := ed
  have HbA : Hid (Byt w p0 c0 A) := hbA
  have HbB : Hid (Byt w p1 c1 B) := hbB
  have Hb0 : Hid (Byt w p0 c0 l0) := b0
  have Hb1 : Hid (Byt w p1 c1 l1) := b1
  obtain ⟨ZC, hZC⟩ : ∃ Z, Z = (cs (part C 0)).toArray := ⟨_, rfl⟩
  have eZC : (cs (List.replicate l1.length 0)).toArray = ZC := by rw [hZC, part_start, ← hCn]
  have EZC : Hid ((cs (List.replicate l1.length 0)).toArray = ZC) := eZC
  have HZC : Hid (ZC = (cs (part C 0)).toArray) := hZC
  have eZD : ZC = (cs (part D 0)).toArray := by rw [hZC, part_start, part_start, ← hCn, ← hDn]
  have HZD : Hid (ZC = (cs (part D 0)).toArray) := eZD
  clear eA eB eC eD hAn hBn hCn hDn hMn hbA hbB hCat hDat hmix ea eb ec ed eab hx1 hx2 b0 b1 hZC eZC eZD hla hlb hlc
  go_enter Try.func6, Try.ntmps6
  go_wp2_with (first
    | (at_make; have _t := hg1; refine wpList_make_zero rfl _ _ rfl _ _ l1.length rfl rfl (by omega) (by omega) (by omega) ?_; intro w5 hg5 hb5; rw [EZC.out] at hg5)
    | (at_make; refine wpList_make_zero rfl _ _ rfl _ _ l1.length rfl rfl (by omega) (by omega) (by omega) ?_; intro w4 hg1 hb1; rw [EZC.out] at hg1))
  have hlt4 : w.heap.size < w4.heap.size := (Array.getElem?_eq_some_iff.1 hg1).1
  have hg4 : w5.heap[w.heap.size]? = some (Obj.cells ZC 5) := by rw [hb5.block _ hlt4]; exact hg1
  have hbel5 : Below w.heap.size w w5 := hb1.trans (hb5.mono (by omega))
  clear hg1 _t hb1 hb5
  generalize ehh : w4.heap.size = hh at hg5 hlt4 ⊢
  clear ehh
  have HG4 : Hid (w5.heap[w.heap.size]? = some (.cells (cs (part C 0)).toArray 5 (0, 0))) := (by rw [← HZC.out]; exact hg4 : w5.heap[w.heap.size]? = some (.cells (cs (part C 0)).toArray 5 (0, 0)))
  have HG5 : Hid (w5.heap[hh]? = some (.cells (cs (part D 0)).toArray 5 (0, 0))) := (by rw [← HZD.out]; exact hg5 : w5.heap[hh]? = some (.cells (cs (part D 0)).toArray 5 (0, 0)))
  clear hg4 hg5 EZC HZC HZD
  go_loopw [10] (fun i wr => ∃ k : Nat, k ≤ l1.length ∧ i = .int .i64 k ∧ Hid (wr.heap[w.heap.size]? = some (.cells (cs (part C k)).toArray 5 (0, 0))) ∧ Hid (wr.heap[hh]? = some (.cells (cs (part D k)).toArray 5 (0, 0))) ∧ Hid (Below w.heap.size w wr)) (fun i _ => l1.length - (intOf i).toNat)
  case atStart => exact ⟨0, by omega, rfl, HG4, HG5, hbel5⟩
  case round =>
    obtain ⟨k, hk, rfl, HRC, HRD, HBl⟩ := hrel
    clear HG4 HG5 hbel5
    by_cases hlt : k < l1.length
    · obtain ⟨q0, o0, rfl, hcA⟩ := Hb0.out.2.2.2 k (by omega)
      obtain ⟨q1, o1, rfl, hcB⟩ := Hb1.out.2.2.2 k (by omega)
      have hqa := World.block_lt_of_cell? w _ hcA
      have hqb := World.block_lt_of_cell? w _ hcB
      have hqa' : q0 < w.heap.size := hqa
      have hqb' : q1 < w.heap.size := hqb
      have hcA2 : wr.cell? ⟨q0, o0 + k, none⟩ = some (.int .u8 (M.bAt l0 k)) := by rw [HBl.out.cell (p := ⟨q0, o0 + k, none⟩) hqa]; exact hcA
      have hcB2 : wr.cell? ⟨q1, o1 + k, none⟩ = some (.int .u8 (M.bAt l1 k)) := by rw [HBl.out.cell (p := ⟨q1, o1 + k, none⟩) hqb]; exact hcB
      clear hcA hcB hqa hqb
      have hkC : k < C.length := by have := HCn.out; omega
      have hkD : k < D.length := by have := HDn.out; omega
      have hc1 := row_cell HRC.out (k := k) (by rw [part_len _ _ (by omega)]; omega)
      have hf1 : wr.frozen? ⟨w.heap.size, k, none⟩ = false := frozen_of_row _ _ _ _ _ HRC.out
      have hi0 : (k : Int) < (l0.length : Int) := by omega
      have hi1 : (k : Int) < (l1.length : Int) := by omega
      have hiN : (k : Int) < (l1.length : Int) := by omega
      have hCk := HCat.out k hlt
      have hXC : ((x : Int) + (k : Int)) % 256 = (M.bAt C k : Int) := by omega
      obtain ⟨w6, hw6⟩ : ∃ w6, wr.setCell ⟨w.heap.size, k, none⟩ (.int .u8 (((x : Int) + (k : Int)) % 256)) = w6 := ⟨_, rfl⟩
      have hr6C : w6.heap[w.heap.size]? = some (.cells (cs (part C (k + 1))).toArray 5 (0, 0)) := by rw [← hw6]; exact row_step HRC.out hXC hkC
      have hr6D : w6.heap[hh]? = some (.cells (cs (part D k)).toArray 5 (0, 0)) := by rw [← hw6]; exact row_other HRD.out (by omega)
      have hb6 : Below w.heap.size w w6 := by rw [← hw6]; exact HBl.out.setCell (Nat.le_refl _) _
      have h6A : w6.cell? ⟨q0, o0 + k, none⟩ = some (.int .u8 (M.bAt l0 k)) := by
        rw [← hw6]; exact (cell_other wr _ (by omega)).trans hcA2
      have h6B : w6.cell? ⟨q1, o1 + k, none⟩ = some (.int .u8 (M.bAt l1 k)) := by
        rw [← hw6]; exact (cell_other wr _ (by omega)).trans hcB2
      have h6C : w6.cell? ⟨w.heap.size, k, none⟩ = some (.int .u8 (M.bAt C k)) := by
        rw [row_cell hr6C (by rw [part_len _ _ (by omega)]; omega), bAt_part C k hkC]
      have h6D := row_cell hr6D (k := k) (by rw [part_len _ _ (by omega)]; omega)
      have h6f : w6.frozen? ⟨hh, k, none⟩ = false := frozen_of_row _ _ _ _ _ hr6D
      have HR6C : Hid (w6.heap[w.heap.size]? = some (.cells (cs (part C (k + 1))).toArray 5 (0, 0))) := hr6C
      have HR6D : Hid (w6.heap[hh]? = some (.cells (cs (part D k)).toArray 5 (0, 0))) := hr6D
      have HB6 : Hid (Below w.heap.size w w6) := hb6
      have HW6 : Hid (wr.setCell ⟨w.heap.size, k, none⟩ (.int .u8 (((x : Int) + (k : Int)) % 256)) = w6) := hw6
      have hxD : bits .xor .u8 (bits .xor .u8 (M.bAt l0 k : Int) (M.bAt l1 k : Int)) (M.bAt C k : Int) = (M.bAt D k : Int) := by
        rw [xor3 _ _ _ (M.bAt_lt _ _) (M.bAt_lt _ _) (M.bAt_lt _ _), HDat.out k hlt]
      have HXD : Hid (bits .xor .u8 (bits .xor .u8 (M.bAt l0 k : Int) (M.bAt l1 k : Int)) (M.bAt C k : Int) = (M.bAt D k : Int)) := hxD
      clear hr6C hr6D hb6 hw6 hxD hXC hCk
      go_wp2_with fail
      rw [HW6.out]
      clear hcA2 hcB2 hc1 hf1 HRC HRD HBl HW6
      go_big_region
      go_wp2
      go_roundw
      case rel => exact ⟨k + 1, by omega, by go_num, row_other (o := .cells (cs (part C (k + 1))).toArray 5 (0, 0)) HR6C.out (by omega), row_step HR6D.out HXD.out hkD, (HB6.out.setCell (p := ⟨hh, k, none⟩) (by show w.heap.size ≤ hh; omega) _).drew⟩
      case measure => simp [intOf]; omega
    · obtain rfl : k = l1.length := by omega
      have hBC : Byt wr (some ⟨w.heap.size, 0, none⟩) l1.length C := by
        have h := HRC.out
        rw [HCn.out, part_end] at h
        exact row_byt h HCn.out (by omega)
      have hBD : Byt wr (some ⟨hh, 0, none⟩) l1.length D := by
        have h := HRD.out
        rw [HDn.out, part_end] at h
        exact row_byt h HDn.out (by omega)
      have HC3 : Hid (Byt wr (some ⟨w.heap.size, 0, none⟩) l1.length C) := hBC
      have HD3 : Hid (Byt wr (some ⟨hh, 0, none⟩) l1.length D) := hBD
      have HA3 : Hid (Byt wr p0 c0 A) := HbA.out.below HBl.out
      have HB3 : Hid (Byt wr p1 c1 B) := HbB.out.below HBl.out
      clear hBC hBD HRC HRD HbA HbB Hb0 Hb1
      go_wp2_with fail
      have hre := Ex.refl
      refine Rg.wp_rows [.inl (Value.slice p0 l0.length c0), .inl (Value.int IntKind.i64 ↑l1.length), .inl (Value.slice p0 l1.length c0), .inl (Value.int IntKind.u32 ↑ca), .inl (Value.slice p1 l1.length c1), .inl (Value.int IntKind.i64 ↑l1.length), .inl (Value.slice p1 l1.length c1), .inl (Value.int IntKind.u32 ↑cb), .inl (Value.int IntKind.u32 ↑cab), .inl (Value.slice (some { block := w.heap.size, off := 0 }) l1.length l1.length), .inl (Value.int IntKind.u32 ↑cc), .inl (Value.int IntKind.u32 ↑cd), .inl (Value.slice (some { block := hh, off := 0 }) l1.length l1.length), .inl (Value.int IntKind.u32 ↑cd), .inl (.bool true), .inl (.bool true), .inl (.bool true), .inl (.bool true), .inl (.bool true)] (Ex wr) Ex 72 (by kernel_rfl) rfl (by kernel_rfl) ?st hre (Ex.drew _) ?goods ?fin
      case st => exact trivial
      case goods =>
        refine Rg.goods_cons (Rg.good_move hre rfl rfl rfl) ?_
        refine Rg.goods_cons (Rg.good_move hre rfl rfl rfl) ?_
        refine Rg.goods_cons (Rg.good_slice2 hre rfl rfl rfl (by rintro u wx hC rfl; exact ⟨_, slice_row p0 _ c0 l1.length wx (by omega) hcm0, rfl⟩)) ?_
        refine Rg.goods_cons (Rg.good_call1 Try.func8 (by kernel_rfl) rfl rfl rfl (by rintro u wx hC rfl; exact same_of (crc_is p0 _ c0 A _ wx (HA3.out.below hC) HAn.out HA.out.symm) hC)) ?_
        refine Rg.goods_cons (Rg.good_move hre rfl rfl rfl) ?_
        refine Rg.goods_cons (Rg.good_move hre rfl rfl rfl) ?_
        refine Rg.goods_cons (Rg.good_slice2 hre rfl rfl rfl (by rintro u wx hC rfl; exact ⟨_, slice_row p1 _ c1 l1.length wx (by omega) hcm1, rfl⟩)) ?_
        refine Rg.goods_cons (Rg.good_call1 Try.func8 (by kernel_rfl) rfl rfl rfl (by rintro u wx hC rfl; exact same_of (crc_is p1 _ c1 B _ wx (HB3.out.below hC) HBn.out HB.out.symm) hC)) ?_
        refine Rg.goods_cons (Rg.good_bin hre rfl rfl rfl rfl (fun _ => rfl) (fun w => by simp only [go_sem, HX1.out, Sem.run_pure])) ?_
        refine Rg.goods_cons (Rg.good_move hre rfl rfl rfl) ?_
        refine Rg.goods_cons (Rg.good_call1 Try.func8 (by kernel_rfl) rfl rfl rfl (by rintro u wx hC rfl; exact same_of (crc_is _ _ _ C _ wx (HC3.out.below hC) HCn.out HC.out.symm) hC)) ?_
        refine Rg.goods_cons (Rg.good_bin hre rfl rfl rfl rfl (fun _ => rfl) (fun w => by simp only [go_sem, HX2.out, Sem.run_pure])) ?_
        refine Rg.goods_cons (Rg.good_move hre rfl rfl rfl) ?_
        refine Rg.goods_cons (Rg.good_call1 Try.func8 (by kernel_rfl) rfl rfl rfl (by rintro u wx hC rfl; exact same_of (crc_is _ _ _ D _ wx (HD3.out.below hC) HDn.out HD.out.symm) hC)) ?_
        refine Rg.goods_cons (Rg.good_bin hre rfl rfl rfl rfl (fun _ => rfl) (fun w => by go_simp)) ?_
        refine Rg.goods_cons (Rg.good_move hre rfl rfl rfl) ?_
        refine Rg.goods_cons (Rg.good_call0 Try.func10 (by kernel_rfl) rfl rfl rfl (by exact fun wx hC => known_row wx hC)) ?_
        refine Rg.goods_cons (Rg.good_pick true hre rfl rfl rfl rfl) ?_
        refine Rg.goods_cons (Rg.good_assign hre rfl rfl rfl) ?_
        exact Rg.goods_nil
      case fin =>
        intro wx hx
        simp only [Rg.later, Act.put, List.setIfInBounds_toArray, List.set_cons_succ, List.set_cons_zero]
        go_wp2
        go_ret
        exact ⟨rfl, Ex.trans HBl.out hx⟩

set_option maxRecDepth 100000 in
set_option maxHeartbeats 4000000 in
theorem walk_c (p0 : Option Addr) (c0 : Nat) (l0 : List UInt8) (p1 : Option Addr) (c1 : Nat) (l1 : List UInt8) (a2 : Int) (w : World) (b0 : Byt w p0 c0 l0) (b1 : Byt w p1 c1 l1) (w2 : 0 ≤ a2 ∧ a2 ≤ 255) (h1 : l0.length ≤ l1.length) (h2 : 2000 < l0.length) :
    Calls Try.prog 6 #[.slice p0 l0.length c0, .slice p1 l1.length c1, .int .u8 a2] w fun e w' => e = .returned (.bool true) ∧ Below w.heap.size w w' := by
  obtain ⟨x, rfl⟩ := Int.eq_ofNat_of_zero_le w2.1
  have hx : x < 256 := by omega
  have hcl0 := b0.1
  have hcm0 := b0.2.1
  have hcl1 := b1.1
  have hcm1 := b1.2.1
  have hln0 : l0.length ≤ 9223372036854775807 := by unfold maxLen at hcm0; omega
  have hln1 : l1.length ≤ 9223372036854775807 := by unfold maxLen at hcm1; omega
  have t1 : decide ((l1.length : Int) < (l0.length : Int)) = false := by simp; omega
  have t2 : decide ((2000 : Int) < (l0.length : Int)) = true := by simp; omega
  have hk0 : 2000 ≤ l0.length := by omega
  have hk1 : 2000 ≤ l1.length := by omega
  have hk2 : 2000 ≤ 2000 := by omega
  obtain ⟨A, eA⟩ : ∃ A, A = l0.take 2000 := ⟨_, rfl⟩
  obtain ⟨B, eB⟩ : ∃ B, B = l1.take 2000 := ⟨_, rfl⟩
  obtain ⟨C, eC⟩ : ∃ C, C = rise x 2000 := ⟨_, rfl⟩
  obtain ⟨D, eD⟩ : ∃ D, D = S.mix (S.mix A B) C := ⟨_, rfl⟩
  have hAn : 2000 = A.length := by rw [eA]; simp <;> omega
  have hBn : 2000 = B.length := by rw [eB]; simp <;> omega
  have hCn : 2000 = C.length := by rw [eC, rise_len]
  have hMn : (S.mix A B).length = A.length := S.mix_len _ _ (by omega)
  have hDn : 2000 = D.length := by rw [eD, S.mix_len _ _ (by omega)]; omega
  have hbA : Byt w p0 c0 A := by rw [eA]; exact b0.take hk0
  have hbB : Byt w p1 c1 B := by rw [eB]; exact b1.take hk1
  have hCat : ∀ k, k < 2000 → M.bAt C k = (x + k) % 256 := fun k hk => by rw [eC, rise_at x _ k hk]
  have hDat : ∀ k, k < 2000 → M.bAt D k = M.bAt l0 k ^^^ M.bAt l1 k ^^^ M.bAt C k := fun k hk => by
    rw [eD, bAt_mix _ _ k (by omega) (by omega), bAt_mix _ _ k (by omega) (by omega), eA, eB, bAt_take _ _ _ hk, bAt_take _ _ _ hk]
  have hmix := S.crc_mix A B C (by omega) (by omega)
  rw [← eD] at hmix
  have HCat : Hid (∀ k, k < 2000 → M.bAt C k = (x + k) % 256) := hCat
  have HDat : Hid (∀ k, k < 2000 → M.bAt D k = M.bAt l0 k ^^^ M.bAt l1 k ^^^ M.bAt C k) := hDat
  have HAn : Hid (2000 = A.length) := hAn
  have HBn : Hid (2000 = B.length) := hBn
  have HCn : Hid (2000 = C.length) := hCn
  have HDn : Hid (2000 = D.length) := hDn
  obtain ⟨ca, ea⟩ : ∃ c, c = S.crc A := ⟨_, rfl⟩
  obtain ⟨cb, eb⟩ : ∃ c, c = S.crc B := ⟨_, rfl⟩
  obtain ⟨cc, ec⟩ : ∃ c, c = S.crc C := ⟨_, rfl⟩
  obtain ⟨cd, ed⟩ : ∃ c, c = S.crc D := ⟨_, rfl⟩
  have hla : ca < 4294967296 := by rw [ea]; exact S.crc_lt _
  have hlb : cb < 4294967296 := by rw [eb]; exact S.crc_lt _
  have hlc : cc < 4294967296 := by rw [ec]; exact S.crc_lt _
  obtain ⟨cab, eab⟩ : ∃ c, c = ca ^^^ cb := ⟨_, rfl⟩
  have hx1 : bits .xor .u32 (ca : Int) (cb : Int) = (cab : Int) := by rw [eab]; exact I.xor32 _ _ ca cb rfl rfl hla hlb
  have hx2 : bits .xor .u32 (cab : Int) (cc : Int) = (cd : Int) := by
    rw [I.xor32 _ _ cab cc rfl rfl (by rw [eab]; exact S.xlt hla hlb) hlc, eab, ed, ← hmix, ← ea, ← eb, ← ec]
  have HX1 : Hid (bits .xor .u32 (ca : Int) (cb : Int) = (cab : Int)) := hx1
  have HX2 : Hid (bits .xor .u32 (cab : Int) (cc : Int) = (cd : Int)) := hx2
  have HA : Hid (ca = S.crc A) := ea
  have HB : Hid (cb = S.crc B) := eb
  have HC : Hid (cc = S.crc C) := ec
  have HD : Hid (cd = S.crc D) := ed
  have HbA : Hid (Byt w p0 c0 A) := hbA
  have HbB : Hid (Byt w p1 c1 B) := hbB
  have Hb0 : Hid (Byt w p0 c0 l0) := b0
  have Hb1 : Hid (Byt w p1 c1 l1) := b1
  obtain ⟨ZC, hZC⟩ : ∃ Z, Z = (cs (part C 0)).toArray := ⟨_, rfl⟩
  have eZC : (cs (List.replicate 2000 0)).toArray = ZC := by rw [hZC, part_start, ← hCn]
  have EZC : Hid ((cs (List.replicate 2000 0)).toArray = ZC) := eZC
  have HZC : Hid (ZC = (cs (part C 0)).toArray) := hZC
  have eZD : ZC = (cs (part D 0)).toArray := by rw [hZC, part_start, part_start, ← hCn, ← hDn]
  have HZD : Hid (ZC = (cs (part D 0)).toArray) := eZD
  clear eA eB eC eD hAn hBn hCn hDn hMn hbA hbB hCat hDat hmix ea eb ec ed eab hx1 hx2 b0 b1 hZC eZC eZD hla hlb hlc
  go_enter Try.func6, Try.ntmps6
  go_wp2_with (first
    | (at_make; have _t := hg1; refine wpList_make_zero rfl _ _ rfl _ _ 2000 rfl rfl (by omega) (by omega) (by omega) ?_; intro w5 hg5 hb5; rw [EZC.out] at hg5)
    | (at_make; refine wpList_make_zero rfl _ _ rfl _ _ 2000 rfl rfl (by omega) (by omega) (by omega) ?_; intro w4 hg1 hb1; rw [EZC.out] at hg1))
  have hlt4 : w.heap.size < w4.heap.size := (Array.getElem?_eq_some_iff.1 hg1).1
  have hg4 : w5.heap[w.heap.size]? = some (Obj.cells ZC 5) := by rw [hb5.block _ hlt4]; exact hg1
  have hbel5 : Below w.heap.size w w5 := hb1.trans (hb5.mono (by omega))
  clear hg1 _t hb1 hb5
  generalize ehh : w4.heap.size = hh at hg5 hlt4 ⊢
  clear ehh
  have HG4 : Hid (w5.heap[w.heap.size]? = some (.cells (cs (part C 0)).toArray 5 (0, 0))) := (by rw [← HZC.out]; exact hg4 : w5.heap[w.heap.size]? = some (.cells (cs (part C 0)).toArray 5 (0, 0)))
  have HG5 : Hid (w5.heap[hh]? = some (.cells (cs (part D 0)).toArray 5 (0, 0))) := (by rw [← HZD.out]; exact hg5 : w5.heap[hh]? = some (.cells (cs (part D 0)).toArray 5 (0, 0)))
  clear hg4 hg5 EZC HZC HZD
  go_loopw [10] (fun i wr => ∃ k : Nat, k ≤ 2000 ∧ i = .int .i64 k ∧ Hid (wr.heap[w.heap.size]? = some (.cells (cs (part C k)).toArray 5 (0, 0))) ∧ Hid (wr.heap[hh]? = some (.cells (cs (part D k)).toArray 5 (0, 0))) ∧ Hid (Below w.heap.size w wr)) (fun i _ => 2000 - (intOf i).toNat)
  case atStart => exact ⟨0, by omega, rfl, HG4, HG5, hbel5⟩
  case round =>
    obtain ⟨k, hk, rfl, HRC, HRD, HBl⟩ := hrel
    clear HG4 HG5 hbel5
    by_cases hlt : k < 2000
    · obtain ⟨q0, o0, rfl, hcA⟩ := Hb0.out.2.2.2 k (by omega)
      obtain ⟨q1, o1, rfl, hcB⟩ := Hb1.out.2.2.2 k (by omega)
      have hqa := World.block_lt_of_cell? w _ hcA
      have hqb := World.block_lt_of_cell? w _ hcB
      have hqa' : q0 < w.heap.size := hqa
      have hqb' : q1 < w.heap.size := hqb
      have hcA2 : wr.cell? ⟨q0, o0 + k, none⟩ = some (.int .u8 (M.bAt l0 k)) := by rw [HBl.out.cell (p := ⟨q0, o0 + k, none⟩) hqa]; exact hcA
      have hcB2 : wr.cell? ⟨q1, o1 + k, none⟩ = some (.int .u8 (M.bAt l1 k)) := by rw [HBl.out.cell (p := ⟨q1, o1 + k, none⟩) hqb]; exact hcB
      clear hcA hcB hqa hqb
      have hkC : k < C.length := by have := HCn.out; omega
      have hkD : k < D.length := by have := HDn.out; omega
      have hc1 := row_cell HRC.out (k := k) (by rw [part_len _ _ (by omega)]; omega)
      have hf1 : wr.frozen? ⟨w.heap.size, k, none⟩ = false := frozen_of_row _ _ _ _ _ HRC.out
      have hi0 : (k : Int) < (l0.length : Int) := by omega
      have hi1 : (k : Int) < (l1.length : Int) := by omega
      have hiN : (k : Int) < (2000 : Int) := by omega
      have hCk := HCat.out k hlt
      have hXC : ((x : Int) + (k : Int)) % 256 = (M.bAt C k : Int) := by omega
      obtain ⟨w6, hw6⟩ : ∃ w6, wr.setCell ⟨w.heap.size, k, none⟩ (.int .u8 (((x : Int) + (k : Int)) % 256)) = w6 := ⟨_, rfl⟩
      have hr6C : w6.heap[w.heap.size]? = some (.cells (cs (part C (k + 1))).toArray 5 (0, 0)) := by rw [← hw6]; exact row_step HRC.out hXC hkC
      have hr6D : w6.heap[hh]? = some (.cells (cs (part D k)).toArray 5 (0, 0)) := by rw [← hw6]; exact row_other HRD.out (by omega)
      have hb6 : Below w.heap.size w w6 := by rw [← hw6]; exact HBl.out.setCell (Nat.le_refl _) _
      have h6A : w6.cell? ⟨q0, o0 + k, none⟩ = some (.int .u8 (M.bAt l0 k)) := by
        rw [← hw6]; exact (cell_other wr _ (by omega)).trans hcA2
      have h6B : w6.cell? ⟨q1, o1 + k, none⟩ = some (.int .u8 (M.bAt l1 k)) := by
        rw [← hw6]; exact (cell_other wr _ (by omega)).trans hcB2
      have h6C : w6.cell? ⟨w.heap.size, k, none⟩ = some (.int .u8 (M.bAt C k)) := by
        rw [row_cell hr6C (by rw [part_len _ _ (by omega)]; omega), bAt_part C k hkC]
      have h6D := row_cell hr6D (k := k) (by rw [part_len _ _ (by omega)]; omega)
      have h6f : w6.frozen? ⟨hh, k, none⟩ = false := frozen_of_row _ _ _ _ _ hr6D
      have HR6C : Hid (w6.heap[w.heap.size]? = some (.cells (cs (part C (k + 1))).toArray 5 (0, 0))) := hr6C
      have HR6D : Hid (w6.heap[hh]? = some (.cells (cs (part D k)).toArray 5 (0, 0))) := hr6D
      have HB6 : Hid (Below w.heap.size w w6) := hb6
      have HW6 : Hid (wr.setCell ⟨w.heap.size, k, none⟩ (.int .u8 (((x : Int) + (k : Int)) % 256)) = w6) := hw6
      have hxD : bits .xor .u8 (bits .xor .u8 (M.bAt l0 k : Int) (M.bAt l1 k : Int)) (M.bAt C k : Int) = (M.bAt D k : Int) := by
        rw [xor3 _ _ _ (M.bAt_lt _ _) (M.bAt_lt _ _) (M.bAt_lt _ _), HDat.out k hlt]
      have HXD : Hid (bits .xor .u8 (bits .xor .u8 (M.bAt l0 k : Int) (M.bAt l1 k : Int)) (M.bAt C k : Int) = (M.bAt D k : Int)) := hxD
      clear hr6C hr6D hb6 hw6 hxD hXC hCk
      go_wp2_with fail
      rw [HW6.out]
      clear hcA2 hcB2 hc1 hf1 HRC HRD HBl HW6
      go_big_region
      go_wp2
      go_roundw
      case rel => exact ⟨k + 1, by omega, by go_num, row_other (o := .cells (cs (part C (k + 1))).toArray 5 (0, 0)) HR6C.out (by omega), row_step HR6D.out HXD.out hkD, (HB6.out.setCell (p := ⟨hh, k, none⟩) (by show w.heap.size ≤ hh; omega) _).drew⟩
      case measure => simp [intOf]; omega
    · obtain rfl : k = 2000 := by omega
      have hBC : Byt wr (some ⟨w.heap.size, 0, none⟩) 2000 C := by
        have h := HRC.out
        rw [HCn.out, part_end] at h
        exact row_byt h HCn.out (by omega)
      have hBD : Byt wr (some ⟨hh, 0, none⟩) 2000 D := by
        have h := HRD.out
        rw [HDn.out, part_end] at h
        exact row_byt h HDn.out (by omega)
      have HC3 : Hid (Byt wr (some ⟨w.heap.size, 0, none⟩) 2000 C) := hBC
      have HD3 : Hid (Byt wr (some ⟨hh, 0, none⟩) 2000 D) := hBD
      have HA3 : Hid (Byt wr p0 c0 A) := HbA.out.below HBl.out
      have HB3 : Hid (Byt wr p1 c1 B) := HbB.out.below HBl.out
      clear hBC hBD HRC HRD HbA HbB Hb0 Hb1
      go_wp2_with fail
      have hre := Ex.refl
      refine Rg.wp_rows [.inl (Value.slice p0 l0.length c0), .inl (Value.int IntKind.i64 2000), .inl (Value.slice p0 2000 c0), .inl (Value.int IntKind.u32 ↑ca), .inl (Value.slice p1 l1.length c1), .inl (Value.int IntKind.i64 2000), .inl (Value.slice p1 2000 c1), .inl (Value.int IntKind.u32 ↑cb), .inl (Value.int IntKind.u32 ↑cab), .inl (Value.slice (some { block := w.heap.size, off := 0 }) 2000 2000), .inl (Value.int IntKind.u32 ↑cc), .inl (Value.int IntKind.u32 ↑cd), .inl (Value.slice (some { block := hh, off := 0 }) 2000 2000), .inl (Value.int IntKind.u32 ↑cd), .inl (.bool true), .inl (.bool true), .inl (.bool true), .inl (.bool true), .inl (.bool true)] (Ex wr) Ex 72 (by kernel_rfl) rfl (by kernel_rfl) ?st hre (Ex.drew _) ?goods ?fin
      case st => exact trivial
      case goods =>
        refine Rg.goods_cons (Rg.good_move hre rfl rfl rfl) ?_
        refine Rg.goods_cons (Rg.good_move hre rfl rfl rfl) ?_
        refine Rg.goods_cons (Rg.good_slice2 hre rfl rfl rfl (by rintro u wx hC rfl; exact ⟨_, slice_row p0 _ c0 2000 wx (by omega) hcm0, rfl⟩)) ?_
        refine Rg.goods_cons (Rg.good_call1 Try.func8 (by kernel_rfl) rfl rfl rfl (by rintro u wx hC rfl; exact same_of (crc_is p0 _ c0 A _ wx (HA3.out.below hC) HAn.out HA.out.symm) hC)) ?_
        refine Rg.goods_cons (Rg.good_move hre rfl rfl rfl) ?_
        refine Rg.goods_cons (Rg.good_move hre rfl rfl rfl) ?_
        refine Rg.goods_cons (Rg.good_slice2 hre rfl rfl rfl (by rintro u wx hC rfl; exact ⟨_, slice_row p1 _ c1 2000 wx (by omega) hcm1, rfl⟩)) ?_
        refine Rg.goods_cons (Rg.good_call1 Try.func8 (by kernel_rfl) rfl rfl rfl (by rintro u wx hC rfl; exact same_of (crc_is p1 _ c1 B _ wx (HB3.out.below hC) HBn.out HB.out.symm) hC)) ?_
        refine Rg.goods_cons (Rg.good_bin hre rfl rfl rfl rfl (fun _ => rfl) (fun w => by simp only [go_sem, HX1.out, Sem.run_pure])) ?_
        refine Rg.goods_cons (Rg.good_move hre rfl rfl rfl) ?_
        refine Rg.goods_cons (Rg.good_call1 Try.func8 (by kernel_rfl) rfl rfl rfl (by rintro u wx hC rfl; exact same_of (crc_is _ _ _ C _ wx (HC3.out.below hC) HCn.out HC.out.symm) hC)) ?_
        refine Rg.goods_cons (Rg.good_bin hre rfl rfl rfl rfl (fun _ => rfl) (fun w => by simp only [go_sem, HX2.out, Sem.run_pure])) ?_
        refine Rg.goods_cons (Rg.good_move hre rfl rfl rfl) ?_
        refine Rg.goods_cons (Rg.good_call1 Try.func8 (by kernel_rfl) rfl rfl rfl (by rintro u wx hC rfl; exact same_of (crc_is _ _ _ D _ wx (HD3.out.below hC) HDn.out HD.out.symm) hC)) ?_
        refine Rg.goods_cons (Rg.good_bin hre rfl rfl rfl rfl (fun _ => rfl) (fun w => by go_simp)) ?_
        refine Rg.goods_cons (Rg.good_move hre rfl rfl rfl) ?_
        refine Rg.goods_cons (Rg.good_call0 Try.func10 (by kernel_rfl) rfl rfl rfl (by exact fun wx hC => known_row wx hC)) ?_
        refine Rg.goods_cons (Rg.good_pick true hre rfl rfl rfl rfl) ?_
        refine Rg.goods_cons (Rg.good_assign hre rfl rfl rfl) ?_
        exact Rg.goods_nil
      case fin =>
        intro wx hx
        simp only [Rg.later, Act.put, List.setIfInBounds_toArray, List.set_cons_succ, List.set_cons_zero]
        go_wp2
        go_ret
        exact ⟨rfl, Ex.trans HBl.out hx⟩

set_option maxRecDepth 100000 in
set_option maxHeartbeats 4000000 in
theorem walk_d (p0 : Option Addr) (c0 : Nat) (l0 : List UInt8) (p1 : Option Addr) (c1 : Nat) (l1 : List UInt8) (a2 : Int) (w : World) (b0 : Byt w p0 c0 l0) (b1 : Byt w p1 c1 l1) (w2 : 0 ≤ a2 ∧ a2 ≤ 255) (h1 : l1.length < l0.length) (h2 : 2000 < l1.length) :
    Calls Try.prog 6 #[.slice p0 l0.length c0, .slice p1 l1.length c1, .int .u8 a2] w fun e w' => e = .returned (.bool true) ∧ Below w.heap.size w w' := by
  obtain ⟨x, rfl⟩ := Int.eq_ofNat_of_zero_le w2.1
  have hx : x < 256 := by omega
  have hcl0 := b0.1
  have hcm0 := b0.2.1
  have hcl1 := b1.1
  have hcm1 := b1.2.1
  have hln0 : l0.length ≤ 9223372036854775807 := by unfold maxLen at hcm0; omega
  have hln1 : l1.length ≤ 9223372036854775807 := by unfold maxLen at hcm1; omega
  have t1 : decide ((l1.length : Int) < (l0.length : Int)) = true := by simp; omega
  have t2 : decide ((2000 : Int) < (l1.length : Int)) = true := by simp; omega
  have hk0 : 2000 ≤ l0.length := by omega
  have hk1 : 2000 ≤ l1.length := by omega
  have hk2 : 2000 ≤ 2000 := by omega
  obtain ⟨A, eA⟩ : ∃ A, A = l0.take 2000 := ⟨_, rfl⟩
  obtain ⟨B, eB⟩ : ∃ B, B = l1.take 2000 := ⟨_, rfl⟩
  obtain ⟨C, eC⟩ : ∃ C, C = rise x 2000 := ⟨_, rfl⟩
  obtain ⟨D, eD⟩ : ∃ D, D = S.mix (S.mix A B) C := ⟨_, rfl⟩
  have hAn : 2000 = A.length := by rw [eA]; simp <;> omega
  have hBn : 2000 = B.length := by rw [eB]; simp <;> omega
  have hCn : 2000 = C.length := by rw [eC, rise_len]
  have hMn : (S.mix A B).length = A.length := S.mix_len _ _ (by omega)
  have hDn : 2000 = D.length := by rw [eD, S.mix_len _ _ (by omega)]; omega
  have hbA : Byt w p0 c0 A := by rw [eA]; exact b0.take hk0
  have hbB : Byt w p1 c1 B := by rw [eB]; exact b1.take hk1
  have hCat : ∀ k, k < 2000 → M.bAt C k = (x + k) % 256 := fun k hk => by rw [eC, rise_at x _ k hk]
  have hDat : ∀ k, k < 2000 → M.bAt D k = M.bAt l0 k ^^^ M.bAt l1 k ^^^ M.bAt C k := fun k hk => by
    rw [eD, bAt_mix _ _ k (by omega) (by omega), bAt_mix _ _ k (by omega) (by omega), eA, eB, bAt_take _ _ _ hk, bAt_take _ _ _ hk]
  have hmix := S.crc_mix A B C (by omega) (by omega)
  rw [← eD] at hmix
  have HCat : Hid (∀ k, k < 2000 → M.bAt C k = (x + k) % 256) := hCat
  have HDat : Hid (∀ k, k < 2000 → M.bAt D k = M.bAt l0 k ^^^ M.bAt l1 k ^^^ M.bAt C k) := hDat
  have HAn : Hid (2000 = A.length) := hAn
  have HBn : Hid (2000 = B.length) := hBn
  have HCn : Hid (2000 = C.length) := hCn
  have HDn : Hid (2000 = D.length) := hDn
  obtain ⟨ca, ea⟩ : ∃ c, c = S.crc A := ⟨_, rfl⟩
  obtain ⟨cb, eb⟩ : ∃ c, c = S.crc B := ⟨_, rfl⟩
  obtain ⟨cc, ec⟩ : ∃ c, c = S.crc C := ⟨_, rfl⟩
  obtain ⟨cd, ed⟩ : ∃ c, c = S.crc D := ⟨_, rfl⟩
  have hla : ca < 4294967296 := by rw [ea]; exact S.crc_lt _
  have hlb : cb < 4294967296 := by rw [eb]; exact S.crc_lt _
  have hlc : cc < 4294967296 := by rw [ec]; exact S.crc_lt _
  obtain ⟨cab, eab⟩ : ∃ c, c = ca ^^^ cb := ⟨_, rfl⟩
  have hx1 : bits .xor .u32 (ca : Int) (cb : Int) = (cab : Int) := by rw [eab]; exact I.xor32 _ _ ca cb rfl rfl hla hlb
  have hx2 : bits .xor .u32 (cab : Int) (cc : Int) = (cd : Int) := by
    rw [I.xor32 _ _ cab cc rfl rfl (by rw [eab]; exact S.xlt hla hlb) hlc, eab, ed, ← hmix, ← ea, ← eb, ← ec]
  have HX1 : Hid (bits .xor .u32 (ca : Int) (cb : Int) = (cab : Int)) := hx1
  have HX2 : Hid (bits .xor .u32 (cab : Int) (cc : Int) = (cd : Int)) := hx2
  have HA : Hid (ca = S.crc A) := ea
  have HB : Hid (cb = S.crc B) := eb
  have HC : Hid (cc = S.crc C) := ec
  have HD : Hid (cd = S.crc D) := ed
  have HbA : Hid (Byt w p0 c0 A) := hbA
  have HbB : Hid (Byt w p1 c1 B) := hbB
  have Hb0 : Hid (Byt w p0 c0 l0) := b0
  have Hb1 : Hid (Byt w p1 c1 l1) := b1
  obtain ⟨ZC, hZC⟩ : ∃ Z, Z = (cs (part C 0)).toArray := ⟨_, rfl⟩
  have eZC : (cs (List.replicate 2000 0)).toArray = ZC := by rw [hZC, part_start, ← hCn]
  have EZC : Hid ((cs (List.replicate 2000 0)).toArray = ZC) := eZC
  have HZC : Hid (ZC = (cs (part C 0)).toArray) := hZC
  have eZD : ZC = (cs (part D 0)).toArray := by rw [hZC, part_start, part_start, ← hCn, ← hDn]
  have HZD : Hid (ZC = (cs (part D 0)).toArray) := eZD
  clear eA eB eC eD hAn hBn hCn hDn hMn hbA hbB hCat hDat hmix ea eb ec ed eab hx1 hx2 b0 b1 hZC eZC eZD hla hlb hlc
  go_enter Try.func6, Try.ntmps6
  go_wp2_with (first
    | (at_make; have _t := hg1; refine wpList_make_zero rfl _ _ rfl _ _ 2000 rfl rfl (by omega) (by omega) (by omega) ?_; intro w5 hg5 hb5; rw [EZC.out] at hg5)
    | (at_make; refine wpList_make_zero rfl _ _ rfl _ _ 2000 rfl rfl (by omega) (by omega) (by omega) ?_; intro w4 hg1 hb1; rw [EZC.out] at hg1))
  have hlt4 : w.heap.size < w4.heap.size := (Array.getElem?_eq_some_iff.1 hg1).1
  have hg4 : w5.heap[w.heap.size]? = some (Obj.cells ZC 5) := by rw [hb5.block _ hlt4]; exact hg1
  have hbel5 : Below w.heap.size w w5 := hb1.trans (hb5.mono (by omega))
  clear hg1 _t hb1 hb5
  generalize ehh : w4.heap.size = hh at hg5 hlt4 ⊢
  clear ehh
  have HG4 : Hid (w5.heap[w.heap.size]? = some (.cells (cs (part C 0)).toArray 5 (0, 0))) := (by rw [← HZC.out]; exact hg4 : w5.heap[w.heap.size]? = some (.cells (cs (part C 0)).toArray 5 (0, 0)))
  have HG5 : Hid (w5.heap[hh]? = some (.cells (cs (part D 0)).toArray 5 (0, 0))) := (by rw [← HZD.out]; exact hg5 : w5.heap[hh]? = some (.cells (cs (part D 0)).toArray 5 (0, 0)))
  clear hg4 hg5 EZC HZC HZD
  go_loopw [10] (fun i wr => ∃ k : Nat, k ≤ 2000 ∧ i = .int .i64 k ∧ Hid (wr.heap[w.heap.size]? = some (.cells (cs (part C k)).toArray 5 (0, 0))) ∧ Hid (wr.heap[hh]? = some (.cells (cs (part D k)).toArray 5 (0, 0))) ∧ Hid (Below w.heap.size w wr)) (fun i _ => 2000 - (intOf i).toNat)
  case atStart => exact ⟨0, by omega, rfl, HG4, HG5, hbel5⟩
  case round =>
    obtain ⟨k, hk, rfl, HRC, HRD, HBl⟩ := hrel
    clear HG4 HG5 hbel5
    by_cases hlt : k < 2000
    · obtain ⟨q0, o0, rfl, hcA⟩ := Hb0.out.2.2.2 k (by omega)
      obtain ⟨q1, o1, rfl, hcB⟩ := Hb1.out.2.2.2 k (by omega)
      have hqa := World.block_lt_of_cell? w _ hcA
      have hqb := World.block_lt_of_cell? w _ hcB
      have hqa' : q0 < w.heap.size := hqa
      have hqb' : q1 < w.heap.size := hqb
      have hcA2 : wr.cell? ⟨q0, o0 + k, none⟩ = some (.int .u8 (M.bAt l0 k)) := by rw [HBl.out.cell (p := ⟨q0, o0 + k, none⟩) hqa]; exact hcA
      have hcB2 : wr.cell? ⟨q1, o1 + k, none⟩ = some (.int .u8 (M.bAt l1 k)) := by rw [HBl.out.cell (p := ⟨q1, o1 + k, none⟩) hqb]; exact hcB
      clear hcA hcB hqa hqb
      have hkC : k < C.length := by have := HCn.out; omega
      have hkD : k < D.length := by have := HDn.out; omega
      have hc1 := row_cell HRC.out (k := k) (by rw [part_len _ _ (by omega)]; omega)
      have hf1 : wr.frozen? ⟨w.heap.size, k, none⟩ = false := frozen_of_row _ _ _ _ _ HRC.out
      have hi0 : (k : Int) < (l0.length : Int) := by omega
      have hi1 : (k : Int) < (l1.length : Int) := by omega
      have hiN : (k : Int) < (2000 : Int) := by omega
      have hCk := HCat.out k hlt
      have hXC : ((x : Int) + (k : Int)) % 256 = (M.bAt C k : Int) := by omega
      obtain ⟨w6, hw6⟩ : ∃ w6, wr.setCell ⟨w.heap.size, k, none⟩ (.int .u8 (((x : Int) + (k : Int)) % 256)) = w6 := ⟨_, rfl⟩
      have hr6C : w6.heap[w.heap.size]? = some (.cells (cs (part C (k + 1))).toArray 5 (0, 0)) := by rw [← hw6]; exact row_step HRC.out hXC hkC
      have hr6D : w6.heap[hh]? = some (.cells (cs (part D k)).toArray 5 (0, 0)) := by rw [← hw6]; exact row_other HRD.out (by omega)
      have hb6 : Below w.heap.size w w6 := by rw [← hw6]; exact HBl.out.setCell (Nat.le_refl _) _
      have h6A : w6.cell? ⟨q0, o0 + k, none⟩ = some (.int .u8 (M.bAt l0 k)) := by
        rw [← hw6]; exact (cell_other wr _ (by omega)).trans hcA2
      have h6B : w6.cell? ⟨q1, o1 + k, none⟩ = some (.int .u8 (M.bAt l1 k)) := by
        rw [← hw6]; exact (cell_other wr _ (by omega)).trans hcB2
      have h6C : w6.cell? ⟨w.heap.size, k, none⟩ = some (.int .u8 (M.bAt C k)) := by
        rw [row_cell hr6C (by rw [part_len _ _ (by omega)]; omega), bAt_part C k hkC]
      have h6D := row_cell hr6D (k := k) (by rw [part_len _ _ (by omega)]; omega)
      have h6f : w6.frozen? ⟨hh, k, none⟩ = false := frozen_of_row _ _ _ _ _ hr6D
      have HR6C : Hid (w6.heap[w.heap.size]? = some (.cells (cs (part C (k + 1))).toArray 5 (0, 0))) := hr6C
      have HR6D : Hid (w6.heap[hh]? = some (.cells (cs (part D k)).toArray 5 (0, 0))) := hr6D
      have HB6 : Hid (Below w.heap.size w w6) := hb6
      have HW6 : Hid (wr.setCell ⟨w.heap.size, k, none⟩ (.int .u8 (((x : Int) + (k : Int)) % 256)) = w6) := hw6
      have hxD : bits .xor .u8 (bits .xor .u8 (M.bAt l0 k : Int) (M.bAt l1 k : Int)) (M.bAt C k : Int) = (M.bAt D k : Int) := by
        rw [xor3 _ _ _ (M.bAt_lt _ _) (M.bAt_lt _ _) (M.bAt_lt _ _), HDat.out k hlt]
      have HXD : Hid (bits .xor .u8 (bits .xor .u8 (M.bAt l0 k : Int) (M.bAt l1 k : Int)) (M.bAt C k : Int) = (M.bAt D k : Int)) := hxD
      clear hr6C hr6D hb6 hw6 hxD hXC hCk
      go_wp2_with fail
      rw [HW6.out]
      clear hcA2 hcB2 hc1 hf1 HRC HRD HBl HW6
      go_big_region
      go_wp2
      go_roundw
      case rel => exact ⟨k + 1, by omega, by go_num, row_other (o := .cells (cs (part C (k + 1))).toArray 5 (0, 0)) HR6C.out (by omega), row_step HR6D.out HXD.out hkD, (HB6.out.setCell (p := ⟨hh, k, none⟩) (by show w.heap.size ≤ hh; omega) _).drew⟩
      case measure => simp [intOf]; omega
    · obtain rfl : k = 2000 := by omega
      have hBC : Byt wr (some ⟨w.heap.size, 0, none⟩) 2000 C := by
        have h := HRC.out
        rw [HCn.out, part_end] at h
        exact row_byt h HCn.out (by omega)
      have hBD : Byt wr (some ⟨hh, 0, none⟩) 2000 D := by
        have h := HRD.out
        rw [HDn.out, part_end] at h
        exact row_byt h HDn.out (by omega)
      have HC3 : Hid (Byt wr (some ⟨w.heap.size, 0, none⟩) 2000 C) := hBC
      have HD3 : Hid (Byt wr (some ⟨hh, 0, none⟩) 2000 D) := hBD
      have HA3 : Hid (Byt wr p0 c0 A) := HbA.out.below HBl.out
      have HB3 : Hid (Byt wr p1 c1 B) := HbB.out.below HBl.out
      clear hBC hBD HRC HRD HbA HbB Hb0 Hb1
      go_wp2_with fail
      have hre := Ex.refl
      refine Rg.wp_rows [.inl (Value.slice p0 l0.length c0), .inl (Value.int IntKind.i64 2000), .inl (Value.slice p0 2000 c0), .inl (Value.int IntKind.u32 ↑ca), .inl (Value.slice p1 l1.length c1), .inl (Value.int IntKind.i64 2000), .inl (Value.slice p1 2000 c1), .inl (Value.int IntKind.u32 ↑cb), .inl (Value.int IntKind.u32 ↑cab), .inl (Value.slice (some { block := w.heap.size, off := 0 }) 2000 2000), .inl (Value.int IntKind.u32 ↑cc), .inl (Value.int IntKind.u32 ↑cd), .inl (Value.slice (some { block := hh, off := 0 }) 2000 2000), .inl (Value.int IntKind.u32 ↑cd), .inl (.bool true), .inl (.bool true), .inl (.bool true), .inl (.bool true), .inl (.bool true)] (Ex wr) Ex 72 (by kernel_rfl) rfl (by kernel_rfl) ?st hre (Ex.drew _) ?goods ?fin
      case st => exact trivial
      case goods =>
        refine Rg.goods_cons (Rg.good_move hre rfl rfl rfl) ?_
        refine Rg.goods_cons (Rg.good_move hre rfl rfl rfl) ?_
        refine Rg.goods_cons (Rg.good_slice2 hre rfl rfl rfl (by rintro u wx hC rfl; exact ⟨_, slice_row p0 _ c0 2000 wx (by omega) hcm0, rfl⟩)) ?_
        refine Rg.goods_cons (Rg.good_call1 Try.func8 (by kernel_rfl) rfl rfl rfl (by rintro u wx hC rfl; exact same_of (crc_is p0 _ c0 A _ wx (HA3.out.below hC) HAn.out HA.out.symm) hC)) ?_
        refine Rg.goods_cons (Rg.good_move hre rfl rfl rfl) ?_
        refine Rg.goods_cons (Rg.good_move hre rfl rfl rfl) ?_
        refine Rg.goods_cons (Rg.good_slice2 hre rfl rfl rfl (by rintro u wx hC rfl; exact ⟨_, slice_row p1 _ c1 2000 wx (by omega) hcm1, rfl⟩)) ?_
        refine Rg.goods_cons (Rg.good_call1 Try.func8 (by kernel_rfl) rfl rfl rfl (by rintro u wx hC rfl; exact same_of (crc_is p1 _ c1 B _ wx (HB3.out.below hC) HBn.out HB.out.symm) hC)) ?_
        refine Rg.goods_cons (Rg.good_bin hre rfl rfl rfl rfl (fun _ => rfl) (fun w => by simp only [go_sem, HX1.out, Sem.run_pure])) ?_
        refine Rg.goods_cons (Rg.good_move hre rfl rfl rfl) ?_
        refine Rg.goods_cons (Rg.good_call1 Try.func8 (by kernel_rfl) rfl rfl rfl (by rintro u wx hC rfl; exact same_of (crc_is _ _ _ C _ wx (HC3.out.below hC) HCn.out HC.out.symm) hC)) ?_
        refine Rg.goods_cons (Rg.good_bin hre rfl rfl rfl rfl (fun _ => rfl) (fun w => by simp only [go_sem, HX2.out, Sem.run_pure])) ?_
        refine Rg.goods_cons (Rg.good_move hre rfl rfl rfl) ?_
        refine Rg.goods_cons (Rg.good_call1 Try.func8 (by kernel_rfl) rfl rfl rfl (by rintro u wx hC rfl; exact same_of (crc_is _ _ _ D _ wx (HD3.out.below hC) HDn.out HD.out.symm) hC)) ?_
        refine Rg.goods_cons (Rg.good_bin hre rfl rfl rfl rfl (fun _ => rfl) (fun w => by go_simp)) ?_
        refine Rg.goods_cons (Rg.good_move hre rfl rfl rfl) ?_
        refine Rg.goods_cons (Rg.good_call0 Try.func10 (by kernel_rfl) rfl rfl rfl (by exact fun wx hC => known_row wx hC)) ?_
        refine Rg.goods_cons (Rg.good_pick true hre rfl rfl rfl rfl) ?_
        refine Rg.goods_cons (Rg.good_assign hre rfl rfl rfl) ?_
        exact Rg.goods_nil
      case fin =>
        intro wx hx
        simp only [Rg.later, Act.put, List.setIfInBounds_toArray, List.set_cons_succ, List.set_cons_zero]
        go_wp2
        go_ret
        exact ⟨rfl, Ex.trans HBl.out hx⟩

theorem walk (p0 : Option Addr) (c0 : Nat) (l0 : List UInt8) (p1 : Option Addr) (c1 : Nat) (l1 : List UInt8) (a2 : Int) (w : World) (b0 : Byt w p0 c0 l0) (w0 : l0.length ≤ 140737488351232) (b1 : Byt w p1 c1 l1) (w1 : l1.length ≤ 140737488351232) (w2 : 0 ≤ a2 ∧ a2 ≤ 255) :
    Calls Try.prog 6 #[.slice p0 l0.length c0, .slice p1 l1.length c1, .int .u8 a2] w fun e w' => e = .returned (.bool true) ∧ Below w.heap.size w w' := by
  by_cases h : l1.length < l0.length
  · by_cases h2 : 2000 < l1.length
    · exact walk_d p0 c0 l0 p1 c1 l1 a2 w b0 b1 w2 h h2
    · exact walk_b p0 c0 l0 p1 c1 l1 a2 w b0 b1 w2 h (by omega)
  · by_cases h2 : 2000 < l0.length
    · exact walk_c p0 c0 l0 p1 c1 l1 a2 w b0 b1 w2 (by omega) h2
    · exact walk_a p0 c0 l0 p1 c1 l1 a2 w b0 b1 w2 (by omega) (by omega)
end Go.Proofs.Ytjokipdibbhmlaa.sumMixes
