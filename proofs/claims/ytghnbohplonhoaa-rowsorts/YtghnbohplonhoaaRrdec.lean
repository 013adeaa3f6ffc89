/-
  The document's own Decode of rows.
-/
import Derived.Test.YtghnbohplonhoaaRrenc
namespace Go.Proofs.Ytghnbohplonhoaa
open Go.RowKit
set_option linter.unusedVariables false
set_option linter.unusedSimpArgs false
namespace Rw
def dec1 (b : List UInt8) : Nat → List Nat → Int → Rw × Nat × Nat
  | 0, L, k => dec3 b (L.getD 0 0) (L.getD 1 0) (L.getD 2 0) k.toNat
  | n + 1, L, k => if (M.get b k).2.2 ≠ 0 then (zero, 0, (M.get b k).2.2) else dec1 b n (L ++ [(M.get b k).1]) (M.get b k).2.1
theorem dec1_bad {b : List UInt8} {n : Nat} {L : List Nat} {k : Int} (h : (M.get b k).2.2 ≠ 0) : dec1 b (n + 1) L k = (zero, 0, (M.get b k).2.2) := by rw [dec1, if_pos h]
theorem dec1_step {b : List UInt8} {n : Nat} {L : List Nat} {k : Int} (h : (M.get b k).2.2 = 0) : dec1 b (n + 1) L k = dec1 b n (L ++ [(M.get b k).1]) (M.get b k).2.1 := by rw [dec1, if_neg (by simp [h])]
theorem dec_is1 (b : List UInt8) (p : Int) : dec b p = dec1 b 3 [] p := by
  unfold dec
  simp only [dec1, List.nil_append, List.cons_append, List.getD_cons_zero, List.getD_cons_succ, Int.toNat_natCast]
/-- What is left, with n cells to come and the cells o read. -/
def tl (b : List UInt8) (t q n k : Nat) (o : List Ce) : Rw × Nat × Nat :=
  if (rdCs b n k o).2.2 ≠ 0 then (zero, 0, (rdCs b n k o).2.2) else fin ⟨M.zag (t : Int), (q : Int), (rdCs b n k o).1⟩ (rdCs b n k o).2.1
theorem tl_zero (b : List UInt8) (t q k : Nat) (o : List Ce) : tl b t q 0 k o = fin ⟨M.zag (t : Int), (q : Int), o⟩ k := by
  unfold tl; rw [rdCs, if_neg (by simp)]
theorem tl_step {b : List UInt8} {t q n k : Nat} {o : List Ce} {c : Ce} {k' : Nat} (h : rdC b k = (c, k', 0)) : tl b t q (n + 1) k o = tl b t q n k' (o ++ [c]) := by
  unfold tl; rw [rdCs, h]; simp
theorem tl_bad {b : List UInt8} {t q n k : Nat} {o : List Ce} {e : Nat} (h : (rdC b k).2.2 = e) (he : e ≠ 0) : tl b t q (n + 1) k o = (zero, 0, e) := by
  unfold tl
  rw [rdCs, h, if_pos he]
  simp [he]
end Rw
theorem fill3 {L : List Nat} {i : Nat} (hi : L.length = i) (h : i < 3) (x : Nat) : (L ++ List.replicate (3 - i) 0).set i x = (L ++ [x]) ++ List.replicate (3 - (i + 1)) 0 := by
  rw [show 3 - i = (3 - (i + 1)) + 1 by omega, List.replicate_succ, List.set_append_right _ _ (by omega), hi, Nat.sub_self, List.set_cons_zero]
  simp
/-- The third number of the row of three. -/
def cnt70 (w : World) (g : Nat) : Nat := match w.cell? ⟨g, 2, none⟩ with | some (.int _ n) => n.toNat | _ => 0
theorem cnt70_lt {w w' : World} {g j t q : Nat} (h : RowAt n64 77 w' g [t, q, j]) (h2 : w.cell? ⟨g, 2, none⟩ = some (.int .u64 ((j : Int) + 1))) : cnt70 w' g < cnt70 w g := by
  have h1 : w'.cell? ⟨g, 2, none⟩ = some (.int .u64 (j : Int)) := h.cell (k := 2) (by simp)
  unfold cnt70; rw [h1, h2]; simp
theorem getText_len (b : List UInt8) (k m : Int) : (M.getText b k m).1.length ≤ m.toNat := by
  unfold M.getText
  split
  · simp
  · split
    · simp
    · split
      · simp
      · simp; omega
set_option maxHeartbeats 8000000 in
set_option maxRecDepth 100000 in
theorem rrdec_is (a : Option Addr) (len cap : Nat) (b : List UInt8) (p : Int) (w : World) (hlen : len = b.length) (hB : Byt w a cap b) (R : Rw) (k0 e0 : Nat) (hr : Rw.dec b p = (R, k0, e0)) :
    Calls Try.prog 17 #[.slice a len cap, .int .i64 p] w fun e w' => ∃ (sa : Option Addr) (sc : Nat), e = .returned (.tuple #[rvv ⟨R.t, R.q, sa, R.c.length, sc⟩, .int .i64 k0, .int .i64 e0]) ∧ OwnC w' w.heap.size (.slice sa R.c.length sc) R.c ∧ Ex w w' := by
  subst hlen
  have HB : Hid (Byt w a cap b) := hB
  have hcl := hB.1
  have hcm := hB.2.1
  unfold maxLen at hcm
  rw [Rw.dec_is1] at hr
  have Hr : Hid (Rw.dec1 b 3 [] p = (R, k0, e0)) := hr
  clear hB hr
  go_enter Try.func17, Try.ntmps17
  go_wp2_with fail
  go_loopw [8, 9, 10, 11, 12] (fun kv iv xv ev yv wr => ∃ (i : Nat) (L : List Nat) (k : Int), i ≤ 3 ∧ iv = .int .i64 i ∧ kv = .int .i64 k ∧ Hid (L.length = i) ∧ Hid (0 < i → 0 ≤ k) ∧ Hid (∀ x ∈ L, x < 18446744073709551616) ∧ Hid (Rw.dec1 b (3 - i) L k = (R, k0, e0)) ∧ Hid (RowAt n64 77 wr (w.heap.size + 1) (L ++ List.replicate (3 - i) 0)) ∧ Hid (LAt wr w.heap.size ⟨0, 0, none, 0, 0⟩) ∧ Hid (Ex w wr) ∧ wr.heap.size = w.heap.size + 2) (fun kv iv xv ev yv wr => 3 - (intOf iv).toNat)
  case atStart =>
    refine ⟨0, [], p, by omega, rfl, rfl, (rfl : ([] : List Nat).length = 0), (by omega : 0 < 0 → 0 ≤ p), (by simp : ∀ x ∈ ([] : List Nat), x < 18446744073709551616), Hr, ?_, ?_, ?_, ?_⟩
    · have h := heap_alloc_new (w.alloc (rb ⟨0, 0, none, 0, 0⟩)) (.cells #[.int .u64 0, .int .u64 0, .int .u64 0] 77)
      have hs : (w.alloc (rb ⟨0, 0, none, 0, 0⟩)).heap.size = w.heap.size + 1 := by simp
      rw [hs] at h
      exact h
    · exact (LAt.new w ⟨0, 0, none, 0, 0⟩).alloc _
    · show Ex _ _
      (repeat' (first | exact Below.refl _ _ | refine Below.alloc ?_ (by simp <;> omega) _))
    · simp
  case round =>
    obtain ⟨i, L, k, hi3, rfl, rfl, HL, HK0, HL64, HR, HA, HLr, HXr, hwsz⟩ := hrel
    clear Hr
    obtain ⟨p0, p1, p2⟩ := HLr.out.all
    obtain ⟨f0, f1, f2⟩ := HLr.out.fro
    by_cases hlt : i < 3
    · have hti : (i : Int) < 3 := by omega
      obtain ⟨⟨x, k2, e⟩, hg⟩ : ∃ p, p = M.get b k := ⟨_, rfl⟩
      have HGet : Hid (M.get b k = (x, k2, e)) := hg.symm
      have hx64 : x < 18446744073709551616 := by have := (M.get_all b k).1; rw [← hg] at this; exact this
      obtain ⟨n, hn⟩ : ∃ n, 3 - i = n + 1 := ⟨2 - i, by omega⟩
      have hR := HR.out
      rw [hn] at hR
      by_cases he : e = 0
      · subst he
        rw [Rw.dec1_step (by rw [← hg]), ← hg] at hR
        have HR2 : Hid (Rw.dec1 b (3 - (i + 1)) (L ++ [x]) (k2 : Int) = (R, k0, e0)) := (by rw [show 3 - (i + 1) = n by omega]; exact hR : Rw.dec1 b (3 - (i + 1)) (L ++ [x]) (k2 : Int) = (R, k0, e0))
        have hrow := HA.out
        have hlr : (L ++ List.replicate (3 - i) 0).length = 3 := by have := HL.out; simp; omega
        have hcell := hrow.cell (k := i) (by omega)
        have hfro := hrow.frozen i
        have HRS : Hid (RowAt n64 77 (wr.setCell ⟨w.heap.size + 1, i, none⟩ (.int .u64 (x : Int))) (w.heap.size + 1) ((L ++ [x]) ++ List.replicate (3 - (i + 1)) 0)) := (by have h := hrow.set (k := i) x rfl; rw [fill3 HL.out hlt x] at h; exact h : RowAt n64 77 (wr.setCell ⟨w.heap.size + 1, i, none⟩ (.int .u64 (x : Int))) (w.heap.size + 1) ((L ++ [x]) ++ List.replicate (3 - (i + 1)) 0))
        obtain ⟨o9, ho9⟩ : ∃ o9, wr.cell? ⟨w.heap.size + 1, i, none⟩ = some o9 := ⟨_, hcell⟩
        have HL2 : Hid ((L ++ [x]).length = i + 1) := (by have := HL.out; simp; omega : (L ++ [x]).length = i + 1)
        have HL642 : Hid (∀ y ∈ L ++ [x], y < 18446744073709551616) := (fun y hy => by
          rcases List.mem_append.1 hy with h | h
          · exact HL64.out y h
          · simp at h; subst h; exact hx64 : ∀ y ∈ L ++ [x], y < 18446744073709551616)
        have HLr2 : Hid (LAt (wr.setCell ⟨w.heap.size + 1, i, none⟩ (.int .u64 (x : Int))) w.heap.size ⟨0, 0, none, 0, 0⟩) := HLr.out.other (by omega)
        have HX2 : Hid (Ex w (wr.setCell ⟨w.heap.size + 1, i, none⟩ (.int .u64 (x : Int)))) := Below.setCell HXr.out (p := ⟨w.heap.size + 1, i, none⟩) (by simp) _
        have hws2 : (wr.setCell ⟨w.heap.size + 1, i, none⟩ (.int .u64 (x : Int))).heap.size = w.heap.size + 2 := by simp; exact hwsz
        have HWS : Hid ((wr.setCell ⟨w.heap.size + 1, i, none⟩ (.int .u64 (x : Int))).heap.size = w.heap.size + 2) := hws2
        clear hrow hcell hlr hR hg hn hwsz hws2
        go_wp2_with fail
        refine (rget_is a _ cap b _ _ x k2 0 HGet.out (HB.out.below HXr.out) rfl).mono ?_
        rintro e wq ⟨rfl, hw'⟩
        have hw'' := hw'.symm
        clear hw'
        subst hw''
        go_wp2_with fail
        go_roundw
        case rel => exact ⟨i + 1, L ++ [x], k2, by omega, by go_num, rfl, HL2, (fun _ => by omega : 0 < i + 1 → 0 ≤ (k2 : Int)), HL642, HR2, HRS, HLr2, HX2, HWS.out⟩
        case measure => simp [intOf]; omega
      · rw [Rw.dec1_bad (by rw [← hg]; exact he), ← hg] at hR
        have HRES : Hid ((Rw.zero, 0, e) = (R, k0, e0)) := hR
        have te : ((e : Int) == 0) = false := by simp; omega
        have te3 : ((e : Int) != 0) = true := by simp; omega
        clear hR hg hn hwsz
        go_wp2_with fail
        refine (rget_is a _ cap b _ _ x k2 e HGet.out (HB.out.below HXr.out) rfl).mono ?_
        rintro e wq ⟨rfl, hw'⟩
        have hw'' := hw'.symm
        clear hw'
        subst hw''
        go_wp2_with fail
        have hL9 := LAt.store HLr.out ⟨0, 0, none, 0, 0⟩
        have hX9 := Below.lset HXr.out (Nat.le_refl _) ⟨0, 0, none, 0, 0⟩
        have hf := HRES.out
        simp only [Prod.mk.injEq] at hf
        obtain ⟨rfl, rfl, rfl⟩ := hf
        refine bodyPost_ret (v := .tuple #[rvv ⟨0, 0, none, 0, 0⟩, .int .i64 0, .int .i64 e]) (res_row3 Try.results17 rfl rfl rfl hL9) rfl ?_
        exact ⟨none, 0, rfl, ownW_none _ _, hX9⟩
    · have hti : ¬ (i : Int) < 3 := by omega
      obtain rfl : i = 3 := by omega
      rename World => wo
      obtain ⟨t, q, n, rfl⟩ : ∃ t q n, L = [t, q, n] := by
        match L, HL.out with
        | [t, q, n], _ => exact ⟨t, q, n, rfl⟩
      have hA : RowAt n64 77 wo (w.heap.size + 1) [t, q, n] := by simpa using HA.out
      have a0 : wo.cell? ⟨w.heap.size + 1, 0, none⟩ = some (.int .u64 (t : Int)) := hA.cell (k := 0) (by simp)
      have a1 : wo.cell? ⟨w.heap.size + 1, 1, none⟩ = some (.int .u64 (q : Int)) := hA.cell (k := 1) (by simp)
      have a2 : wo.cell? ⟨w.heap.size + 1, 2, none⟩ = some (.int .u64 (n : Int)) := hA.cell (k := 2) (by simp)
      have ht64 := HL64.out t (by simp)
      have hq64 := HL64.out q (by simp)
      have hn64 := HL64.out n (by simp)
      have hR : Rw.dec3 b t q n k.toNat = (R, k0, e0) := HR.out
      obtain ⟨k, rfl⟩ := Int.eq_ofNat_of_zero_le (HK0.out (by omega))
      rw [Int.toNat_natCast] at hR
      obtain ⟨T0, hT0⟩ : ∃ T0, M.zag (t : Int) = T0 := ⟨_, rfl⟩
      have HT0 : Hid (M.zag (t : Int) = T0) := hT0
      have HA0 : Hid (RowAt n64 77 wo (w.heap.size + 1) [t, q, n]) := hA
      obtain ⟨w2, hw2⟩ : ∃ w2, w2 = wo.alloc (rb ⟨T0, 0, none, 0, 0⟩) := ⟨_, rfl⟩
      have hx2 : Ex wo w2 := by rw [hw2]; exact (Below.refl _ _).alloc (Nat.le_refl _) _
      have HX2 : Hid (Ex w w2) := HXr.out.trans hx2
      have HL2 : Hid (LAt w2 w.heap.size ⟨0, 0, none, 0, 0⟩) := HLr.out.below hx2
      have HV2 : Hid (LAt w2 (w.heap.size + 2) ⟨T0, 0, none, 0, 0⟩) := (by rw [hw2, ← hwsz]; exact LAt.new wo _ : LAt w2 (w.heap.size + 2) ⟨T0, 0, none, 0, 0⟩)
      have HA2 : Hid (RowAt n64 77 w2 (w.heap.size + 1) [t, q, n]) := hA.below hx2
      have HWS : Hid (wo.heap.size = w.heap.size + 2) := hwsz
      have HW2 : Hid (w2 = wo.alloc (rb ⟨T0, 0, none, 0, 0⟩)) := hw2
      have HR3 : Hid (Rw.dec3 b t q n k = (R, k0, e0)) := hR
      clear hA hT0 hw2 hx2 hwsz hR p0 p1 p2 f0 f1 f2
      go_wp2_with fail
      refine (rzag_any (t : Int) T0 _ (by omega) (by omega) HT0.out).mono ?_
      rintro e w' ⟨rfl, hw⟩
      have hw := hw.symm
      subst hw
      go_upto_region 12 with fail
      rw [← HW2.out, HWS.out]
      clear a0 a1 a2
      have a0 : w2.cell? ⟨w.heap.size + 1, 0, none⟩ = some (.int .u64 (t : Int)) := HA2.out.cell (k := 0) (by simp)
      have a1 : w2.cell? ⟨w.heap.size + 1, 1, none⟩ = some (.int .u64 (q : Int)) := HA2.out.cell (k := 1) (by simp)
      have a2 : w2.cell? ⟨w.heap.size + 1, 2, none⟩ = some (.int .u64 (n : Int)) := HA2.out.cell (k := 2) (by simp)
      obtain ⟨p0, p1, p2⟩ := HL2.out.all
      obtain ⟨f0, f1, f2⟩ := HL2.out.fro
      obtain ⟨v0, v1, v2⟩ := HV2.out.all
      obtain ⟨y0, y1, y2⟩ := HV2.out.fro
      by_cases hbad : 1073741824 < q ∨ 8 < n
      · have HRES : Hid ((Rw.zero, 0, 12) = (R, k0, e0)) := (by rw [← HR3.out]; unfold Rw.dec3; rw [if_pos hbad] : (Rw.zero, 0, 12) = (R, k0, e0))
        by_cases hq1 : 1073741824 < q
        · have tq : decide (1073741824 < (q : Int)) = true := by simp; omega
          have tq2 : decide (1073741824 < q) = true := by simp; omega
          clear hbad
          go_wp2_with fail
          have hL9 := LAt.store HL2.out ⟨0, 0, none, 0, 0⟩
          have hX9 := Below.lset HX2.out (Nat.le_refl _) ⟨0, 0, none, 0, 0⟩
          have hf := HRES.out
          simp only [Prod.mk.injEq] at hf
          obtain ⟨rfl, rfl, rfl⟩ := hf
          refine bodyPost_ret (v := .tuple #[rvv ⟨0, 0, none, 0, 0⟩, .int .i64 0, .int .i64 12]) (res_row3 Try.results17 rfl rfl rfl hL9) rfl ?_
          exact ⟨none, 0, rfl, ownW_none _ _, hX9⟩
        · have tq : decide (1073741824 < (q : Int)) = false := by simp; omega
          have tq2 : decide (1073741824 < q) = false := by simp; omega
          have hn8 : 8 < n := by omega
          have tn : decide (8 < (n : Int)) = true := by simp; omega
          have tn2 : decide (8 < n) = true := by simp; omega
          clear hbad
          go_wp2_with fail
          have hL9 := LAt.store HL2.out ⟨0, 0, none, 0, 0⟩
          have hX9 := Below.lset HX2.out (Nat.le_refl _) ⟨0, 0, none, 0, 0⟩
          have hf := HRES.out
          simp only [Prod.mk.injEq] at hf
          obtain ⟨rfl, rfl, rfl⟩ := hf
          refine bodyPost_ret (v := .tuple #[rvv ⟨0, 0, none, 0, 0⟩, .int .i64 0, .int .i64 12]) (res_row3 Try.results17 rfl rfl rfl hL9) rfl ?_
          exact ⟨none, 0, rfl, ownW_none _ _, hX9⟩
      · have hq1 : q ≤ 1073741824 := by omega
        have hn8 : n ≤ 8 := by omega
        have tq : decide (1073741824 < (q : Int)) = false := by simp; omega
        have tn : decide (8 < (n : Int)) = false := by simp; omega
        have HTL : Hid (Rw.tl b t q n k [] = (R, k0, e0)) := (by rw [← HR3.out]; unfold Rw.dec3 Rw.tl; rw [if_neg hbad] : Rw.tl b t q n k [] = (R, k0, e0))
        have HV3 : Hid (LAt (w2.setCell ⟨w.heap.size + 2, 1, none⟩ (.int .i64 (q : Int))) (w.heap.size + 2) ⟨T0, (q : Int), none, 0, 0⟩) := HV2.out.set (k := 1) rfl
        have HL3 : Hid (LAt (w2.setCell ⟨w.heap.size + 2, 1, none⟩ (.int .i64 (q : Int))) w.heap.size ⟨0, 0, none, 0, 0⟩) := HL2.out.other (by omega)
        have HA3 : Hid (RowAt n64 77 (w2.setCell ⟨w.heap.size + 2, 1, none⟩ (.int .i64 (q : Int))) (w.heap.size + 1) [t, q, n]) := HA2.out.other (by omega)
        have HX3 : Hid (Ex w (w2.setCell ⟨w.heap.size + 2, 1, none⟩ (.int .i64 (q : Int)))) := Below.setCell HX2.out (by simp) _
        have HA : True := trivial
        have HLr : True := trivial
        have HXr : True := trivial
        clear hbad HR3 HA HLr HXr
        go_wp2_with fail
        go_loopw [8, 14, 15, 16, 17, 18, 19, 20, 21, 22, 23, 24] (fun kv _ _ _ _ _ _ _ _ _ _ _ wr => ∃ (j k : Nat) (cs : List Ce) (sa : Option Addr) (sc : Nat), j ≤ 8 ∧ cs.length ≤ 8 - j ∧ kv = .int .i64 k ∧ Hid (Rw.tl b t q j k cs = (R, k0, e0)) ∧ Hid (∀ c ∈ cs, c.col.length ≤ maxLen ∧ c.s.length ≤ maxLen) ∧ Hid (OwnC wr (w.heap.size + 3) (.slice sa cs.length sc) cs) ∧ Hid (LAt wr w.heap.size ⟨0, 0, none, 0, 0⟩) ∧ Hid (LAt wr (w.heap.size + 2) ⟨T0, (q : Int), sa, cs.length, sc⟩) ∧ Hid (RowAt n64 77 wr (w.heap.size + 1) [t, q, j]) ∧ Hid (Ex w wr)) (fun kv _ _ _ _ _ _ _ _ _ _ _ wr => cnt70 wr (w.heap.size + 1))
        case atStart => exact ⟨n, k, [], none, 0, by omega, by simp, rfl, HTL, (by simp : ∀ c ∈ ([] : List Ce), c.col.length ≤ maxLen ∧ c.s.length ≤ maxLen), ownW_none _ _, HL3, HV3, HA3, HX3⟩
        case round =>
          obtain ⟨j, k, cs, sa, sc, hj8, hcs8, rfl, HTLr, HCs, HOr, HLr, HLv, HA, HXr⟩ := hrel
          have a2 : wr.cell? ⟨w.heap.size + 1, 2, none⟩ = some (.int .u64 (j : Int)) := HA.out.cell (k := 2) (by simp)
          have a3 := HA.out.frozen 2
          obtain ⟨v0, v1, v2⟩ := HLv.out.all
          obtain ⟨y0, y1, y2⟩ := HLv.out.fro
          by_cases hj0 : 0 < j
          · obtain ⟨j, rfl⟩ : ∃ i, j = i + 1 := ⟨j - 1, by omega⟩
            have tj : decide (0 < ((j : Int) + 1)) = true := decide_eq_true (by omega)
            obtain ⟨⟨s1, k1, e1⟩, hg1⟩ : ∃ p, M.getText b (k : Int) 12 = p := ⟨_, rfl⟩
            obtain ⟨⟨x, k2, e2⟩, hg2⟩ : ∃ p, M.get b (k1 : Int) = p := ⟨_, rfl⟩
            obtain ⟨⟨y, k3, e3⟩, hg3⟩ : ∃ p, M.get b (k2 : Int) = p := ⟨_, rfl⟩
            obtain ⟨⟨s4, k4, e4⟩, hg4⟩ : ∃ p, M.getText b (k2 : Int) 40 = p := ⟨_, rfl⟩
            have hrd : Rw.rdC b k = (if e1 ≠ 0 then (Rw.none_, 0, e1) else if e2 ≠ 0 then (Rw.none_, 0, e2) else if x ≠ 1 ∧ x ≠ 2 then (Rw.none_, 0, 12) else if x = 1 then (if e3 ≠ 0 then (Rw.none_, 0, e3) else (⟨s1, 1, M.zag (y : Int), []⟩, k3, 0)) else (if e4 ≠ 0 then (Rw.none_, 0, e4) else (⟨s1, 2, 0, s4⟩, k4, 0))) := by
              unfold Rw.rdC
              simp only [hg1, hg2, hg3, hg4]
            have HRD : Hid (Rw.rdC b k = _) := hrd
            have hl1 : s1.length ≤ 12 := by have h := getText_len b (k : Int) 12; rw [hg1] at h; exact h
            have hl4 : s4.length ≤ 40 := by have h := getText_len b (k2 : Int) 40; rw [hg4] at h; exact h
            have hx64 : x < 18446744073709551616 := by have h := (M.get_all b (k1 : Int)).1; rw [hg2] at h; exact h
            have hy64 : y < 18446744073709551616 := by have h := (M.get_all b (k2 : Int)).1; rw [hg3] at h; exact h
            have HG1 : Hid (M.getText b (k : Int) 12 = (s1, k1, e1)) := hg1
            have HG2 : Hid (M.get b (k1 : Int) = (x, k2, e2)) := hg2
            have HG3 : Hid (M.get b (k2 : Int) = (y, k3, e3)) := hg3
            have HG4 : Hid (M.getText b (k2 : Int) 40 = (s4, k4, e4)) := hg4
            have hszv : w.heap.size + 2 < wr.heap.size := HLv.out.lt
            have HBa : Hid (Byt (wr.alloc (.cells #[.string { data := #[] }, .int .i64 0, .int .i64 0, .string { data := #[] }] 25)) a cap b) := HB.out.below (HXr.out.trans ((Below.refl _ _).alloc (Nat.le_refl _) _))
            have HBb : Hid (Byt (wr.alloc (.cells #[.string (str s1), .int .i64 0, .int .i64 0, .string { data := #[] }] 25)) a cap b) := HB.out.below (HXr.out.trans ((Below.refl _ _).alloc (Nat.le_refl _) _))
            have HBc : Hid (Byt (wr.alloc (.cells #[.string (str s1), .int .i64 (x : Int), .int .i64 0, .string { data := #[] }] 25)) a cap b) := HB.out.below (HXr.out.trans ((Below.refl _ _).alloc (Nat.le_refl _) _))
            clear hrd hg1 hg2 hg3 hg4
            by_cases he1 : e1 = 0
            · subst he1
              go_wp2_with fail
              refine (rgetText_any a _ cap b _ 12 _ HBa.out rfl (by omega) (by omega) s1 k1 0 HG1.out).mono ?_
              rintro e w' ⟨rfl, hw⟩
              have hw := hw.symm
              subst hw
              by_cases he2 : e2 = 0
              · subst he2
                go_wp2_with fail
                refine (rget_is a _ cap b _ _ x k2 0 HG2.out HBb.out rfl).mono ?_
                rintro e w' ⟨rfl, hw⟩
                have hw := hw.symm
                subst hw
                by_cases hx12 : x = 1 ∨ x = 2
                · have hx2 : x ≤ 2 := by omega
                  by_cases hx1 : x = 1
                  · have tx1 : ((x : Int) != 1) = false := by simp; omega
                    have tx3 : ((x : Int) == 1) = true := by simp; omega
                    have HX1 : Hid (x = 1) := hx1
                    clear hx1 hx12
                    by_cases he3 : e3 = 0
                    · subst he3
                      obtain ⟨Y, hY⟩ : ∃ Y, M.zag (y : Int) = Y := ⟨_, rfl⟩
                      have HY : Hid (M.zag (y : Int) = Y) := hY
                      clear hY
                      go_wp2_with fail
                      refine (rget_is a _ cap b _ _ y k3 0 HG3.out HBc.out rfl).mono ?_
                      rintro e w' ⟨rfl, hw⟩
                      have hw := hw.symm
                      subst hw
                      go_wp2_with fail
                      refine (rzag_any (y : Int) Y _ (by omega) (by omega) HY.out).mono ?_
                      rintro e w' ⟨rfl, hw⟩
                      have hw := hw.symm
                      subst hw
                      obtain ⟨W, hW⟩ : ∃ W, W = (wr.alloc (.cells #[.string (str s1), .int .i64 (x : Int), .int .i64 Y, .string { data := #[] }] 25)).alloc (.cells #[.string (str s1), .int .i64 (x : Int), .int .i64 Y, .string { data := #[] }] 25) := ⟨_, rfl⟩
                      have hXW : Ex wr W := by rw [hW]; exact ((Below.refl _ _).alloc (Nat.le_refl _) _).alloc (by simp) _
                      have HOW : Hid (OwnC W (w.heap.size + 3) (.slice sa cs.length sc) cs) := HOr.out.later hXW
                      have HRW : Hid (RdC W (some ⟨wr.heap.size + 1, 0, none⟩) 1 [⟨s1, (x : Int), Y, []⟩]) := (by
                        have h := RdW.laid (t := 25) cc_len (wr.alloc (.cells #[.string (str s1), .int .i64 (x : Int), .int .i64 Y, .string { data := #[] }] 25)) [⟨s1, (x : Int), Y, []⟩] (by simp)
                        rw [show (wr.alloc (.cells #[.string (str s1), .int .i64 (x : Int), .int .i64 Y, .string { data := #[] }] 25)).heap.size = wr.heap.size + 1 by simp] at h
                        rw [hW]; exact h : RdC W (some ⟨wr.heap.size + 1, 0, none⟩) 1 [⟨s1, (x : Int), Y, []⟩])
                      have hLW : LAt W w.heap.size ⟨0, 0, none, 0, 0⟩ := HLr.out.below hXW
                      have hLV : LAt W (w.heap.size + 2) ⟨T0, (q : Int), sa, cs.length, sc⟩ := HLv.out.below hXW
                      have hAW : RowAt n64 77 W (w.heap.size + 1) [t, q, j + 1] := HA.out.below hXW
                      have hszW : w.heap.size + 3 ≤ W.heap.size := by have := HLv.out.lt; have := hXW.size; omega
                      have hstep : ∀ v9 w9, OwnC w9 (w.heap.size + 3) v9 (cs ++ [⟨s1, (x : Int), Y, []⟩]) → W.grownBy w9 (Value.slice sa cs.length sc).ownBlock → ∃ a9 c9, v9 = .slice a9 (cs.length + 1) c9 ∧ Hid (OwnC ((w9.setCell ⟨w.heap.size + 2, 2, none⟩ (.slice a9 (cs.length + 1) c9)).setCell ⟨w.heap.size + 1, 2, none⟩ (.int .u64 (j : Int))) (w.heap.size + 3) (.slice a9 (cs.length + 1) c9) (cs ++ [⟨s1, (x : Int), Y, []⟩])) ∧ Hid (LAt ((w9.setCell ⟨w.heap.size + 2, 2, none⟩ (.slice a9 (cs.length + 1) c9)).setCell ⟨w.heap.size + 1, 2, none⟩ (.int .u64 (j : Int))) w.heap.size ⟨0, 0, none, 0, 0⟩) ∧ Hid (LAt ((w9.setCell ⟨w.heap.size + 2, 2, none⟩ (.slice a9 (cs.length + 1) c9)).setCell ⟨w.heap.size + 1, 2, none⟩ (.int .u64 (j : Int))) (w.heap.size + 2) ⟨T0, (q : Int), a9, cs.length + 1, c9⟩) ∧ Hid (RowAt n64 77 ((w9.setCell ⟨w.heap.size + 2, 2, none⟩ (.slice a9 (cs.length + 1) c9)).setCell ⟨w.heap.size + 1, 2, none⟩ (.int .u64 (j : Int))) (w.heap.size + 1) [t, q, j]) ∧ Hid (Ex w ((w9.setCell ⟨w.heap.size + 2, 2, none⟩ (.slice a9 (cs.length + 1) c9)).setCell ⟨w.heap.size + 1, 2, none⟩ (.int .u64 (j : Int)))) ∧
                          w9.cell? ⟨w.heap.size + 2, 2, none⟩ = some (.slice sa cs.length sc) ∧ w9.frozen? ⟨w.heap.size + 2, 2, none⟩ = false ∧ w9.cell? ⟨w.heap.size + 1, 2, none⟩ = some (.int .u64 ((j : Int) + 1)) ∧ w9.frozen? ⟨w.heap.size + 1, 2, none⟩ = false := by
                        intro v9 w9 ho9 hg9
                        have hne : ∀ g, g < w.heap.size + 3 → (Value.slice sa cs.length sc).ownBlock ≠ some g := fun g hg e => by have := HOr.out.lt g e; omega
                        obtain ⟨a9, c9, hv, hb9⟩ := ho9.rd cc_len
                        rw [List.length_append, List.length_singleton] at hv
                        subst hv
                        have hne9 : ∀ g, g < w.heap.size + 3 → (Value.slice a9 (cs.length + 1) c9).ownBlock ≠ some g := fun g hg e => by have := ho9.lt g e; omega
                        have hL1 := hLW.far hg9 (hne _ (by omega))
                        have hL2 := hLV.far hg9 (hne _ (by omega))
                        have hA1 : RowAt n64 77 w9 (w.heap.size + 1) [t, q, j + 1] := by
                          unfold RowAt
                          rw [hg9.block _ hAW.lt (Ne.symm (hne _ (by omega)))]
                          exact hAW
                        have hx9 : Ex w w9 := (HXr.out.trans hXW).grown hg9 (by omega) (fun k hk => by have := HOr.out.lt k hk; omega)
                        refine ⟨a9, c9, rfl, (ho9.apart (hne9 _ (by omega))).apart (hne9 _ (by omega)), (hL1.other (by omega)).other (by omega), (hL2.set (k := 2) (v' := ⟨T0, (q : Int), a9, cs.length + 1, c9⟩) rfl).other (by omega), ?_, Below.setCell (Below.setCell hx9 (by simp) _) (by simp) _, hL2.cell 2, hL2.frozen 2, ?_, hA1.frozen 2⟩
                        · exact RowAt.set (hA1.other (by omega)) (k := 2) j rfl
                        · exact hA1.cell (k := 2) (by simp)
                      have HW : Hid (W = (wr.alloc (.cells #[.string (str s1), .int .i64 (x : Int), .int .i64 Y, .string { data := #[] }] 25)).alloc (.cells #[.string (str s1), .int .i64 (x : Int), .int .i64 Y, .string { data := #[] }] 25)) := hW
                      have HTL2 : Hid (Rw.tl b t q j k3 (cs ++ [⟨s1, (x : Int), Y, []⟩]) = (R, k0, e0)) := (by rw [← HTLr.out]; exact (Rw.tl_step (by rw [HRD.out, if_neg (by simp), if_neg (by simp), if_neg (by have := HX1.out; omega), if_pos HX1.out, if_neg (by simp), HY.out, HX1.out]; rfl)).symm : Rw.tl b t q j k3 (cs ++ [⟨s1, (x : Int), Y, []⟩]) = (R, k0, e0))
                      have HCs2 : Hid (∀ c ∈ cs ++ [⟨s1, (x : Int), Y, []⟩], c.col.length ≤ maxLen ∧ c.s.length ≤ maxLen) := (fun c hc => by
                        rcases List.mem_append.1 hc with h | h
                        · exact HCs.out c h
                        · rw [List.mem_singleton] at h; subst h; simp [maxLen]; omega : ∀ c ∈ cs ++ [⟨s1, (x : Int), Y, []⟩], c.col.length ≤ maxLen ∧ c.s.length ≤ maxLen)
                      clear hW hXW hLW hLV hAW
                      go_wp2_with (at_builtin; rw [← HW.out]; refine wpList_append_wide cc_len cc_one rfl (.tmp 137) (.tmp 139) 23 _ 48 rfl Try.underlying23 Try.info25 (by omega) rfl (w.heap.size + 3) _ cs rfl HOW.out _ 1 1 _ rfl rfl HRW.out (by simp [maxLen]; omega) (by simp; omega) hszW ?_; intro v9 w9 ho9 hg9 _; obtain ⟨a9, c9, rfl, HO9, HL9, HV9, HA9, HX9, j0, j1, j2, j3⟩ := hstep v9 w9 ho9 hg9; clear ho9 hg9)
                      go_roundw
                      case rel =>
                        refine ⟨j, k3, cs ++ [(⟨s1, (x : Int), Y, []⟩ : Ce)], a9, c9, by omega, by simp; omega, rfl, HTL2, HCs2, ?_, HL9, ?_, HA9, HX9⟩
                        · rw [List.length_append, List.length_singleton]; exact HO9
                        · rw [List.length_append, List.length_singleton]; exact HV9
                      case measure => exact cnt70_lt HA9.out a2
                    · have tz : ((e3 : Int) == 0) = false := by simp; omega
                      have tz2 : ((e3 : Int) != 0) = true := by simp; omega
                      go_wp2_with fail
                      refine (rget_is a _ cap b _ _ y k3 e3 HG3.out HBc.out rfl).mono ?_
                      rintro e w' ⟨rfl, hw⟩
                      have hw := hw.symm
                      subst hw
                      have HRES : Hid ((Rw.zero, 0, e3) = (R, k0, e0)) := (by rw [← HTLr.out]; exact (Rw.tl_bad (by rw [HRD.out]; rw [if_neg (by simp), if_neg (by simp), if_neg (by have := HX1.out; omega), if_pos HX1.out, if_pos he3]) (by omega)).symm : (Rw.zero, 0, e3) = (R, k0, e0))
                      go_upto_region 31 with fail
                      obtain ⟨wa, hwa⟩ : ∃ wa, wa = wr.alloc (.cells #[.string (str s1), .int .i64 (x : Int), .int .i64 0, .string { data := #[] }] 25) := ⟨_, rfl⟩
                      have hxa : Ex wr wa := by rw [hwa]; exact (Below.refl _ _).alloc (Nat.le_refl _) _
                      have HLa : Hid (LAt wa w.heap.size ⟨0, 0, none, 0, 0⟩) := HLr.out.below hxa
                      have HXa : Hid (Ex w wa) := HXr.out.trans hxa
                      have HWa : Hid (wa = wr.alloc (.cells #[.string (str s1), .int .i64 (x : Int), .int .i64 0, .string { data := #[] }] 25)) := hwa
                      clear hwa hxa
                      rw [← HWa.out]
                      obtain ⟨p0, p1, p2⟩ := HLa.out.all
                      obtain ⟨f0, f1, f2⟩ := HLa.out.fro
                      go_wp2_with fail
                      have hL9 := LAt.store HLa.out ⟨0, 0, none, 0, 0⟩
                      have hX9 := Below.lset HXa.out (Nat.le_refl _) ⟨0, 0, none, 0, 0⟩
                      have hf := HRES.out
                      simp only [Prod.mk.injEq] at hf
                      obtain ⟨rfl, rfl, rfl⟩ := hf
                      refine bodyPost_ret (v := .tuple #[rvv ⟨0, 0, none, 0, 0⟩, .int .i64 0, .int .i64 e3]) (res_row3 Try.results17 rfl rfl rfl hL9) rfl ?_
                      exact ⟨none, 0, rfl, ownW_none _ _, hX9⟩
                  · have tx1 : ((x : Int) != 1) = true := by simp; omega
                    have tx2 : ((x : Int) != 2) = false := by simp; omega
                    have tx3 : ((x : Int) == 1) = false := by simp; omega
                    have HX1 : Hid (x = 2) := (by omega : x = 2)
                    clear hx1 hx12
                    by_cases he4 : e4 = 0
                    · subst he4
                      go_wp2_with fail
                      refine (rgetText_any a _ cap b _ 40 _ HBc.out rfl (by omega) (by omega) s4 k4 0 HG4.out).mono ?_
                      rintro e w' ⟨rfl, hw⟩
                      have hw := hw.symm
                      subst hw
                      obtain ⟨W, hW⟩ : ∃ W, W = (wr.alloc (.cells #[.string (str s1), .int .i64 (x : Int), .int .i64 0, .string (str s4)] 25)).alloc (.cells #[.string (str s1), .int .i64 (x : Int), .int .i64 0, .string (str s4)] 25) := ⟨_, rfl⟩
                      have hXW : Ex wr W := by rw [hW]; exact ((Below.refl _ _).alloc (Nat.le_refl _) _).alloc (by simp) _
                      have HOW : Hid (OwnC W (w.heap.size + 3) (.slice sa cs.length sc) cs) := HOr.out.later hXW
                      have HRW : Hid (RdC W (some ⟨wr.heap.size + 1, 0, none⟩) 1 [⟨s1, (x : Int), 0, s4⟩]) := (by
                        have h := RdW.laid (t := 25) cc_len (wr.alloc (.cells #[.string (str s1), .int .i64 (x : Int), .int .i64 0, .string (str s4)] 25)) [⟨s1, (x : Int), 0, s4⟩] (by simp)
                        rw [show (wr.alloc (.cells #[.string (str s1), .int .i64 (x : Int), .int .i64 0, .string (str s4)] 25)).heap.size = wr.heap.size + 1 by simp] at h
                        rw [hW]; exact h : RdC W (some ⟨wr.heap.size + 1, 0, none⟩) 1 [⟨s1, (x : Int), 0, s4⟩])
                      have hLW : LAt W w.heap.size ⟨0, 0, none, 0, 0⟩ := HLr.out.below hXW
                      have hLV : LAt W (w.heap.size + 2) ⟨T0, (q : Int), sa, cs.length, sc⟩ := HLv.out.below hXW
                      have hAW : RowAt n64 77 W (w.heap.size + 1) [t, q, j + 1] := HA.out.below hXW
                      have hszW : w.heap.size + 3 ≤ W.heap.size := by have := HLv.out.lt; have := hXW.size; omega
                      have hstep : ∀ v9 w9, OwnC w9 (w.heap.size + 3) v9 (cs ++ [⟨s1, (x : Int), 0, s4⟩]) → W.grownBy w9 (Value.slice sa cs.length sc).ownBlock → ∃ a9 c9, v9 = .slice a9 (cs.length + 1) c9 ∧ Hid (OwnC ((w9.setCell ⟨w.heap.size + 2, 2, none⟩ (.slice a9 (cs.length + 1) c9)).setCell ⟨w.heap.size + 1, 2, none⟩ (.int .u64 (j : Int))) (w.heap.size + 3) (.slice a9 (cs.length + 1) c9) (cs ++ [⟨s1, (x : Int), 0, s4⟩])) ∧ Hid (LAt ((w9.setCell ⟨w.heap.size + 2, 2, none⟩ (.slice a9 (cs.length + 1) c9)).setCell ⟨w.heap.size + 1, 2, none⟩ (.int .u64 (j : Int))) w.heap.size ⟨0, 0, none, 0, 0⟩) ∧ Hid (LAt ((w9.setCell ⟨w.heap.size + 2, 2, none⟩ (.slice a9 (cs.length + 1) c9)).setCell ⟨w.heap.size + 1, 2, none⟩ (.int .u64 (j : Int))) (w.heap.size + 2) ⟨T0, (q : Int), a9, cs.length + 1, c9⟩) ∧ Hid (RowAt n64 77 ((w9.setCell ⟨w.heap.size + 2, 2, none⟩ (.slice a9 (cs.length + 1) c9)).setCell ⟨w.heap.size + 1, 2, none⟩ (.int .u64 (j : Int))) (w.heap.size + 1) [t, q, j]) ∧ Hid (Ex w ((w9.setCell ⟨w.heap.size + 2, 2, none⟩ (.slice a9 (cs.length + 1) c9)).setCell ⟨w.heap.size + 1, 2, none⟩ (.int .u64 (j : Int)))) ∧
                          w9.cell? ⟨w.heap.size + 2, 2, none⟩ = some (.slice sa cs.length sc) ∧ w9.frozen? ⟨w.heap.size + 2, 2, none⟩ = false ∧ w9.cell? ⟨w.heap.size + 1, 2, none⟩ = some (.int .u64 ((j : Int) + 1)) ∧ w9.frozen? ⟨w.heap.size + 1, 2, none⟩ = false := by
                        intro v9 w9 ho9 hg9
                        have hne : ∀ g, g < w.heap.size + 3 → (Value.slice sa cs.length sc).ownBlock ≠ some g := fun g hg e => by have := HOr.out.lt g e; omega
                        obtain ⟨a9, c9, hv, hb9⟩ := ho9.rd cc_len
                        rw [List.length_append, List.length_singleton] at hv
                        subst hv
                        have hne9 : ∀ g, g < w.heap.size + 3 → (Value.slice a9 (cs.length + 1) c9).ownBlock ≠ some g := fun g hg e => by have := ho9.lt g e; omega
                        have hL1 := hLW.far hg9 (hne _ (by omega))
                        have hL2 := hLV.far hg9 (hne _ (by omega))
                        have hA1 : RowAt n64 77 w9 (w.heap.size + 1) [t, q, j + 1] := by
                          unfold RowAt
                          rw [hg9.block _ hAW.lt (Ne.symm (hne _ (by omega)))]
                          exact hAW
                        have hx9 : Ex w w9 := (HXr.out.trans hXW).grown hg9 (by omega) (fun k hk => by have := HOr.out.lt k hk; omega)
                        refine ⟨a9, c9, rfl, (ho9.apart (hne9 _ (by omega))).apart (hne9 _ (by omega)), (hL1.other (by omega)).other (by omega), (hL2.set (k := 2) (v' := ⟨T0, (q : Int), a9, cs.length + 1, c9⟩) rfl).other (by omega), ?_, Below.setCell (Below.setCell hx9 (by simp) _) (by simp) _, hL2.cell 2, hL2.frozen 2, ?_, hA1.frozen 2⟩
                        · exact RowAt.set (hA1.other (by omega)) (k := 2) j rfl
                        · exact hA1.cell (k := 2) (by simp)
                      have HW : Hid (W = (wr.alloc (.cells #[.string (str s1), .int .i64 (x : Int), .int .i64 0, .string (str s4)] 25)).alloc (.cells #[.string (str s1), .int .i64 (x : Int), .int .i64 0, .string (str s4)] 25)) := hW
                      have HTL2 : Hid (Rw.tl b t q j k4 (cs ++ [⟨s1, (x : Int), 0, s4⟩]) = (R, k0, e0)) := (by rw [← HTLr.out]; exact (Rw.tl_step (by rw [HRD.out, if_neg (by simp), if_neg (by simp), if_neg (by have := HX1.out; omega), if_neg (by have := HX1.out; omega), if_neg (by simp), HX1.out]; rfl)).symm : Rw.tl b t q j k4 (cs ++ [⟨s1, (x : Int), 0, s4⟩]) = (R, k0, e0))
                      have HCs2 : Hid (∀ c ∈ cs ++ [⟨s1, (x : Int), 0, s4⟩], c.col.length ≤ maxLen ∧ c.s.length ≤ maxLen) := (fun c hc => by
                        rcases List.mem_append.1 hc with h | h
                        · exact HCs.out c h
                        · rw [List.mem_singleton] at h; subst h; simp [maxLen]; omega : ∀ c ∈ cs ++ [⟨s1, (x : Int), 0, s4⟩], c.col.length ≤ maxLen ∧ c.s.length ≤ maxLen)
                      clear hW hXW hLW hLV hAW
                      go_wp2_with (at_builtin; rw [← HW.out]; refine wpList_append_wide cc_len cc_one rfl (.tmp 137) (.tmp 139) 23 _ 48 rfl Try.underlying23 Try.info25 (by omega) rfl (w.heap.size + 3) _ cs rfl HOW.out _ 1 1 _ rfl rfl HRW.out (by simp [maxLen]; omega) (by simp; omega) hszW ?_; intro v9 w9 ho9 hg9 _; obtain ⟨a9, c9, rfl, HO9, HL9, HV9, HA9, HX9, j0, j1, j2, j3⟩ := hstep v9 w9 ho9 hg9; clear ho9 hg9)
                      go_roundw
                      case rel =>
                        refine ⟨j, k4, cs ++ [(⟨s1, (x : Int), 0, s4⟩ : Ce)], a9, c9, by omega, by simp; omega, rfl, HTL2, HCs2, ?_, HL9, ?_, HA9, HX9⟩
                        · rw [List.length_append, List.length_singleton]; exact HO9
                        · rw [List.length_append, List.length_singleton]; exact HV9
                      case measure => exact cnt70_lt HA9.out a2
                    · have tz : ((e4 : Int) == 0) = false := by simp; omega
                      have tz2 : ((e4 : Int) != 0) = true := by simp; omega
                      go_wp2_with fail
                      refine (rgetText_any a _ cap b _ 40 _ HBc.out rfl (by omega) (by omega) s4 k4 e4 HG4.out).mono ?_
                      rintro e w' ⟨rfl, hw⟩
                      have hw := hw.symm
                      subst hw
                      have HRES : Hid ((Rw.zero, 0, e4) = (R, k0, e0)) := (by rw [← HTLr.out]; exact (Rw.tl_bad (by rw [HRD.out]; rw [if_neg (by simp), if_neg (by simp), if_neg (by have := HX1.out; omega), if_neg (by have := HX1.out; omega), if_pos he4]) (by omega)).symm : (Rw.zero, 0, e4) = (R, k0, e0))
                      go_upto_region 36 with fail
                      obtain ⟨wa, hwa⟩ : ∃ wa, wa = wr.alloc (.cells #[.string (str s1), .int .i64 (x : Int), .int .i64 0, .string { data := #[] }] 25) := ⟨_, rfl⟩
                      have hxa : Ex wr wa := by rw [hwa]; exact (Below.refl _ _).alloc (Nat.le_refl _) _
                      have HLa : Hid (LAt wa w.heap.size ⟨0, 0, none, 0, 0⟩) := HLr.out.below hxa
                      have HXa : Hid (Ex w wa) := HXr.out.trans hxa
                      have HWa : Hid (wa = wr.alloc (.cells #[.string (str s1), .int .i64 (x : Int), .int .i64 0, .string { data := #[] }] 25)) := hwa
                      clear hwa hxa
                      rw [← HWa.out]
                      obtain ⟨p0, p1, p2⟩ := HLa.out.all
                      obtain ⟨f0, f1, f2⟩ := HLa.out.fro
                      go_wp2_with fail
                      have hL9 := LAt.store HLa.out ⟨0, 0, none, 0, 0⟩
                      have hX9 := Below.lset HXa.out (Nat.le_refl _) ⟨0, 0, none, 0, 0⟩
                      have hf := HRES.out
                      simp only [Prod.mk.injEq] at hf
                      obtain ⟨rfl, rfl, rfl⟩ := hf
                      refine bodyPost_ret (v := .tuple #[rvv ⟨0, 0, none, 0, 0⟩, .int .i64 0, .int .i64 e4]) (res_row3 Try.results17 rfl rfl rfl hL9) rfl ?_
                      exact ⟨none, 0, rfl, ownW_none _ _, hX9⟩
                · have tx1 : ((x : Int) != 1) = true := by simp; omega
                  have tx2 : ((x : Int) != 2) = true := by simp; omega
                  have HRES : Hid ((Rw.zero, 0, 12) = (R, k0, e0)) := (by rw [← HTLr.out]; exact (Rw.tl_bad (by rw [HRD.out]; rw [if_neg (by simp), if_neg (by simp), if_pos (by omega)]) (by omega)).symm : (Rw.zero, 0, 12) = (R, k0, e0))
                  go_upto_region 26 with fail
                  obtain ⟨wa, hwa⟩ : ∃ wa, wa = wr.alloc (.cells #[.string (str s1), .int .i64 0, .int .i64 0, .string { data := #[] }] 25) := ⟨_, rfl⟩
                  have hxa : Ex wr wa := by rw [hwa]; exact (Below.refl _ _).alloc (Nat.le_refl _) _
                  have HLa : Hid (LAt wa w.heap.size ⟨0, 0, none, 0, 0⟩) := HLr.out.below hxa
                  have HXa : Hid (Ex w wa) := HXr.out.trans hxa
                  have HWa : Hid (wa = wr.alloc (.cells #[.string (str s1), .int .i64 0, .int .i64 0, .string { data := #[] }] 25)) := hwa
                  clear hwa hxa
                  rw [← HWa.out]
                  obtain ⟨p0, p1, p2⟩ := HLa.out.all
                  obtain ⟨f0, f1, f2⟩ := HLa.out.fro
                  go_wp2_with fail
                  have hL9 := LAt.store HLa.out ⟨0, 0, none, 0, 0⟩
                  have hX9 := Below.lset HXa.out (Nat.le_refl _) ⟨0, 0, none, 0, 0⟩
                  have hf := HRES.out
                  simp only [Prod.mk.injEq] at hf
                  obtain ⟨rfl, rfl, rfl⟩ := hf
                  refine bodyPost_ret (v := .tuple #[rvv ⟨0, 0, none, 0, 0⟩, .int .i64 0, .int .i64 12]) (res_row3 Try.results17 rfl rfl rfl hL9) rfl ?_
                  exact ⟨none, 0, rfl, ownW_none _ _, hX9⟩
              · have tz : ((e2 : Int) == 0) = false := by simp; omega
                have tz2 : ((e2 : Int) != 0) = true := by simp; omega
                go_wp2_with fail
                refine (rget_is a _ cap b _ _ x k2 e2 HG2.out HBb.out rfl).mono ?_
                rintro e w' ⟨rfl, hw⟩
                have hw := hw.symm
                subst hw
                have HRES : Hid ((Rw.zero, 0, e2) = (R, k0, e0)) := (by rw [← HTLr.out]; exact (Rw.tl_bad (by rw [HRD.out]; rw [if_neg (by simp), if_pos he2]) (by omega)).symm : (Rw.zero, 0, e2) = (R, k0, e0))
                go_upto_region 24 with fail
                obtain ⟨wa, hwa⟩ : ∃ wa, wa = wr.alloc (.cells #[.string (str s1), .int .i64 0, .int .i64 0, .string { data := #[] }] 25) := ⟨_, rfl⟩
                have hxa : Ex wr wa := by rw [hwa]; exact (Below.refl _ _).alloc (Nat.le_refl _) _
                have HLa : Hid (LAt wa w.heap.size ⟨0, 0, none, 0, 0⟩) := HLr.out.below hxa
                have HXa : Hid (Ex w wa) := HXr.out.trans hxa
                have HWa : Hid (wa = wr.alloc (.cells #[.string (str s1), .int .i64 0, .int .i64 0, .string { data := #[] }] 25)) := hwa
                clear hwa hxa
                rw [← HWa.out]
                obtain ⟨p0, p1, p2⟩ := HLa.out.all
                obtain ⟨f0, f1, f2⟩ := HLa.out.fro
                go_wp2_with fail
                have hL9 := LAt.store HLa.out ⟨0, 0, none, 0, 0⟩
                have hX9 := Below.lset HXa.out (Nat.le_refl _) ⟨0, 0, none, 0, 0⟩
                have hf := HRES.out
                simp only [Prod.mk.injEq] at hf
                obtain ⟨rfl, rfl, rfl⟩ := hf
                refine bodyPost_ret (v := .tuple #[rvv ⟨0, 0, none, 0, 0⟩, .int .i64 0, .int .i64 e2]) (res_row3 Try.results17 rfl rfl rfl hL9) rfl ?_
                exact ⟨none, 0, rfl, ownW_none _ _, hX9⟩
            · have tz : ((e1 : Int) == 0) = false := by simp; omega
              have tz2 : ((e1 : Int) != 0) = true := by simp; omega
              go_wp2_with fail
              refine (rgetText_any a _ cap b _ 12 _ HBa.out rfl (by omega) (by omega) s1 k1 e1 HG1.out).mono ?_
              rintro e w' ⟨rfl, hw⟩
              have hw := hw.symm
              subst hw
              have HRES : Hid ((Rw.zero, 0, e1) = (R, k0, e0)) := (by rw [← HTLr.out]; exact (Rw.tl_bad (by rw [HRD.out]; rw [if_pos he1]) (by omega)).symm : (Rw.zero, 0, e1) = (R, k0, e0))
              go_upto_region 20 with fail
              obtain ⟨wa, hwa⟩ : ∃ wa, wa = wr.alloc (.cells #[.string { data := #[] }, .int .i64 0, .int .i64 0, .string { data := #[] }] 25) := ⟨_, rfl⟩
              have hxa : Ex wr wa := by rw [hwa]; exact (Below.refl _ _).alloc (Nat.le_refl _) _
              have HLa : Hid (LAt wa w.heap.size ⟨0, 0, none, 0, 0⟩) := HLr.out.below hxa
              have HXa : Hid (Ex w wa) := HXr.out.trans hxa
              have HWa : Hid (wa = wr.alloc (.cells #[.string { data := #[] }, .int .i64 0, .int .i64 0, .string { data := #[] }] 25)) := hwa
              clear hwa hxa
              rw [← HWa.out]
              obtain ⟨p0, p1, p2⟩ := HLa.out.all
              obtain ⟨f0, f1, f2⟩ := HLa.out.fro
              go_wp2_with fail
              have hL9 := LAt.store HLa.out ⟨0, 0, none, 0, 0⟩
              have hX9 := Below.lset HXa.out (Nat.le_refl _) ⟨0, 0, none, 0, 0⟩
              have hf := HRES.out
              simp only [Prod.mk.injEq] at hf
              obtain ⟨rfl, rfl, rfl⟩ := hf
              refine bodyPost_ret (v := .tuple #[rvv ⟨0, 0, none, 0, 0⟩, .int .i64 0, .int .i64 e1]) (res_row3 Try.results17 rfl rfl rfl hL9) rfl ?_
              exact ⟨none, 0, rfl, ownW_none _ _, hX9⟩
          · have hj0' : j = 0 := by omega
            have tj : decide (0 < (j : Int)) = false := by simp; omega
            have HTL0 : Hid (Rw.fin ⟨M.zag (t : Int), (q : Int), cs⟩ k = (R, k0, e0)) := (by rw [← Rw.tl_zero, ← hj0']; exact HTLr.out : Rw.fin ⟨M.zag (t : Int), (q : Int), cs⟩ k = (R, k0, e0))
            have hVok : RvOk wr ⟨T0, (q : Int), sa, cs.length, sc⟩ ⟨T0, (q : Int), cs⟩ := by
              obtain ⟨a8, c8, he, hr8⟩ := HOr.out.rd cc_len
              simp only [Value.slice.injEq] at he
              obtain ⟨rfl, _, rfl⟩ := he
              exact ⟨rfl, rfl, rfl, hr8⟩
            have HVok : Hid (RvOk wr ⟨T0, (q : Int), sa, cs.length, sc⟩ ⟨T0, (q : Int), cs⟩) := hVok
            obtain ⟨rr, hrr⟩ : ∃ x, Rw.right ⟨T0, (q : Int), cs⟩ = x := ⟨_, rfl⟩
            have HRR : Hid (Rw.right ⟨T0, (q : Int), cs⟩ = rr) := hrr
            have HTL1 : Hid ((if rr = true then ((⟨T0, (q : Int), cs⟩ : Rw), k, 0) else (Rw.zero, 0, 12)) = (R, k0, e0)) := (by rw [← HTL0.out, HT0.out]; unfold Rw.fin; rw [hrr] : (if rr = true then ((⟨T0, (q : Int), cs⟩ : Rw), k, 0) else (Rw.zero, 0, 12)) = (R, k0, e0))
            have HCL : Hid (∀ c ∈ cs, c.col.length ≤ maxLen ∧ c.s.length ≤ maxLen) := HCs.out
            clear hj0' hVok hrr
            go_wp2_with fail
            refine (rright_is ⟨T0, (q : Int), sa, cs.length, sc⟩ ⟨T0, (q : Int), cs⟩ _ HVok.out HCL.out rr HRR.out).mono ?_
            rintro e w5 ⟨rfl, hx5⟩
            have HX5 : Hid (Ex w w5) := HXr.out.trans hx5
            have HL5 : Hid (LAt w5 w.heap.size ⟨0, 0, none, 0, 0⟩) := HLr.out.below hx5
            have HV5 : Hid (LAt w5 (w.heap.size + 2) ⟨T0, (q : Int), sa, cs.length, sc⟩) := HLv.out.below hx5
            have HO5 : Hid (OwnC w5 (w.heap.size + 3) (.slice sa cs.length sc) cs) := HOr.out.later hx5
            clear hx5 v0 v1 v2 y0 y1 y2 a2 a3
            obtain ⟨p0, p1, p2⟩ := HL5.out.all
            obtain ⟨f0, f1, f2⟩ := HL5.out.fro
            obtain ⟨v0, v1, v2⟩ := HV5.out.all
            cases rr with
            | false =>
              have hf := HTL1.out
              rw [if_neg (by simp)] at hf
              have HRES : Hid ((Rw.zero, 0, 12) = (R, k0, e0)) := hf
              clear hf
              go_wp2_with fail
              have hL9 := LAt.store HL5.out ⟨0, 0, none, 0, 0⟩
              have hX9 := Below.lset HX5.out (Nat.le_refl _) ⟨0, 0, none, 0, 0⟩
              have hf := HRES.out
              simp only [Prod.mk.injEq] at hf
              obtain ⟨rfl, rfl, rfl⟩ := hf
              refine bodyPost_ret (v := .tuple #[rvv ⟨0, 0, none, 0, 0⟩, .int .i64 0, .int .i64 12]) (res_row3 Try.results17 rfl rfl rfl hL9) rfl ?_
              exact ⟨none, 0, rfl, ownW_none _ _, hX9⟩
            | true =>
              have hf := HTL1.out
              rw [if_pos rfl] at hf
              have HRES : Hid ((⟨T0, (q : Int), cs⟩, k, 0) = (R, k0, e0)) := hf
              clear hf
              go_wp2_with fail
              have hL9 := LAt.store HL5.out ⟨T0, (q : Int), sa, cs.length, sc⟩
              have hX9 := Below.lset HX5.out (Nat.le_refl _) ⟨T0, (q : Int), sa, cs.length, sc⟩
              have hO9 : OwnC (lset w5 w.heap.size ⟨T0, (q : Int), sa, cs.length, sc⟩) w.heap.size (.slice sa cs.length sc) cs := OwnW.mono (OwnW.other (OwnW.other (OwnW.other HO5.out (by omega)) (by omega)) (by omega)) (by omega)
              have hf := HRES.out
              simp only [Prod.mk.injEq] at hf
              obtain ⟨rfl, rfl, rfl⟩ := hf
              refine bodyPost_ret (v := .tuple #[rvv ⟨T0, (q : Int), sa, cs.length, sc⟩, .int .i64 k, .int .i64 0]) (res_row3 Try.results17 rfl rfl rfl hL9) rfl ?_
              exact ⟨sa, sc, rfl, hO9, hX9⟩
end Go.Proofs.Ytghnbohplonhoaa
