/-
  Of the landed zone: getNumbers, getTexts, getHead.
-/
import Derived.Test.YtnfbmffafclaaaaZhead
import Derived.Test.YtnfbmffafclaaaaTogs
namespace Go.Proofs.Ytnfbmffafclaaaa
open Go.RowKit
set_option linter.unusedVariables false
set_option linter.unusedSimpArgs false
set_option maxHeartbeats 4000000 in
set_option maxRecDepth 100000 in
theorem nums_is (a : Option Addr) (len cap : Nat) (b : List UInt8) (k : Int) (w : World) (hlen : len = b.length) (hB : Byt w a cap b) (m1 m2 : Int) (k0 e0 : Nat) (hr : Z.gn b k = (m1, m2, k0, e0)) :
    Calls Try.prog 33 #[.slice a len cap, .int .i64 k] w fun e w' => e = .returned (.tuple #[.int .i64 m1, .int .i64 m2, .int .i64 k0, .int .i64 e0]) ∧ w' = w := by
  subst hlen
  have HB : Hid (Byt w a cap b) := hB
  unfold Z.gn at hr
  obtain ⟨⟨x, k1, e1⟩, hg⟩ : ∃ p, M.get b k = p := ⟨_, rfl⟩
  have hx64 : x < 18446744073709551616 := by have := (M.get_all b k).1; rw [hg] at this; exact this
  rw [hg] at hr
  simp only at hr
  obtain ⟨⟨y, k2, e2⟩, hg2⟩ : ∃ p, M.get b (k1 : Int) = p := ⟨_, rfl⟩
  have hy64 : y < 18446744073709551616 := by have := (M.get_all b (k1 : Int)).1; rw [hg2] at this; exact this
  rw [hg2] at hr
  simp only at hr
  have HG : Hid (M.get b k = (x, k1, e1)) := hg
  have HG2 : Hid (M.get b (k1 : Int) = (y, k2, e2)) := hg2
  have HR : Hid (_ = (m1, m2, k0, e0)) := hr
  clear hg hg2 hr hB
  by_cases he : e1 = 0
  · subst he
    have hr := HR.out
    rw [if_neg (by simp)] at hr
    by_cases he2 : e2 = 0
    · subst he2
      rw [if_neg (by simp)] at hr
      simp only [Prod.mk.injEq] at hr
      obtain ⟨q1, q2, rfl, rfl⟩ := hr
      have Q1 : Hid (M.zag x = m1) := q1
      have Q2 : Hid (M.zag y = m2) := q2
      clear q1 q2 HR
      go_enter Try.func33, Try.ntmps33
      go_wp2_with fail
      refine (get_is a _ cap b _ _ x k1 0 HG.out HB.out rfl).mono ?_
      rintro e w' ⟨rfl, hw⟩
      have hw := hw.symm
      subst hw
      go_wp2_with fail
      refine (get_is a _ cap b _ _ y k2 0 HG2.out HB.out rfl).mono ?_
      rintro e w'' ⟨rfl, hw⟩
      have hw := hw.symm
      subst hw
      go_wp2_with fail
      refine (zag_is x m1 _ (by omega) (by omega) Q1.out).mono ?_
      rintro e w' ⟨rfl, hw⟩
      have hw := hw.symm
      subst hw
      go_wp2_with fail
      refine (zag_is y m2 _ (by omega) (by omega) Q2.out).mono ?_
      rintro e w' ⟨rfl, hw⟩
      have hw := hw.symm
      subst hw
      go_wp2_with fail
      refine bodyPost_ret ?_ rfl ⟨rfl, rfl⟩
      simp [results, Try.results33, go_sem, str]
    · rw [if_pos he2] at hr
      simp only [Prod.mk.injEq] at hr
      obtain ⟨rfl, rfl, rfl, rfl⟩ := hr
      have te : ((e2 : Int) == 0) = false := by simp; omega
      have te2 : ((e2 : Int) != 0) = true := by simp; omega
      clear HR
      go_enter Try.func33, Try.ntmps33
      go_wp2_with fail
      refine (get_is a _ cap b _ _ x k1 0 HG.out HB.out rfl).mono ?_
      rintro e w' ⟨rfl, hw⟩
      have hw := hw.symm
      subst hw
      go_wp2_with fail
      refine (get_is a _ cap b _ _ y k2 e2 HG2.out HB.out rfl).mono ?_
      rintro e w'' ⟨rfl, hw⟩
      have hw := hw.symm
      subst hw
      go_wp2_with fail
      refine bodyPost_ret ?_ rfl ⟨rfl, rfl⟩
      simp [results, Try.results33, go_sem, str]
  · have hr := HR.out
    rw [if_pos he] at hr
    simp only [Prod.mk.injEq] at hr
    obtain ⟨rfl, rfl, rfl, rfl⟩ := hr
    have te : ((e1 : Int) == 0) = false := by simp; omega
    have te2 : ((e1 : Int) != 0) = true := by simp; omega
    clear HR
    go_enter Try.func33, Try.ntmps33
    go_wp2_with fail
    refine (get_is a _ cap b _ _ x k1 e1 HG.out HB.out rfl).mono ?_
    rintro e w' ⟨rfl, hw⟩
    have hw := hw.symm
    subst hw
    go_wp2_with fail
    refine bodyPost_ret ?_ rfl ⟨rfl, rfl⟩
    simp [results, Try.results33, go_sem, str]
set_option maxHeartbeats 4000000 in
set_option maxRecDepth 100000 in
theorem texts_is (a : Option Addr) (len cap : Nat) (b : List UInt8) (k : Int) (w : World) (hlen : len = b.length) (hB : Byt w a cap b) (t1 t2 : List UInt8) (k0 e0 : Nat) (hr : Z.gt b k = (t1, t2, k0, e0)) :
    Calls Try.prog 34 #[.slice a len cap, .int .i64 k] w fun e w' => e = .returned (.tuple #[.string (str t1), .string (str t2), .int .i64 k0, .int .i64 e0]) ∧ w' = w := by
  subst hlen
  have HB : Hid (Byt w a cap b) := hB
  unfold Z.gt at hr
  obtain ⟨⟨x, k1, e1⟩, hg⟩ : ∃ p, M.getText b k 40 = p := ⟨_, rfl⟩
  rw [hg] at hr
  simp only at hr
  obtain ⟨⟨y, k2, e2⟩, hg2⟩ : ∃ p, M.getText b (k1 : Int) 40 = p := ⟨_, rfl⟩
  rw [hg2] at hr
  simp only at hr
  have HG : Hid (M.getText b k 40 = (x, k1, e1)) := hg
  have HG2 : Hid (M.getText b (k1 : Int) 40 = (y, k2, e2)) := hg2
  have HR : Hid (_ = (t1, t2, k0, e0)) := hr
  clear hg hg2 hr hB
  by_cases he : e1 = 0
  · subst he
    have hr := HR.out
    rw [if_neg (by simp)] at hr
    by_cases he2 : e2 = 0
    · subst he2
      rw [if_neg (by simp)] at hr
      simp only [Prod.mk.injEq] at hr
      obtain ⟨rfl, rfl, rfl, rfl⟩ := hr
      clear HR
      go_enter Try.func34, Try.ntmps34
      go_wp2_with fail
      refine (getText_any a _ cap b _ 40 _ HB.out rfl (by omega) (by omega) x k1 0 HG.out).mono ?_
      rintro e w' ⟨rfl, hw⟩
      have hw := hw.symm
      subst hw
      go_wp2_with fail
      refine (getText_any a _ cap b _ 40 _ HB.out rfl (by omega) (by omega) y k2 0 HG2.out).mono ?_
      rintro e w'' ⟨rfl, hw⟩
      have hw := hw.symm
      subst hw
      go_wp2_with fail
      refine bodyPost_ret ?_ rfl ⟨rfl, rfl⟩
      simp [results, Try.results34, go_sem, str]
    · rw [if_pos he2] at hr
      simp only [Prod.mk.injEq] at hr
      obtain ⟨rfl, rfl, rfl, rfl⟩ := hr
      have te : ((e2 : Int) == 0) = false := by simp; omega
      have te2 : ((e2 : Int) != 0) = true := by simp; omega
      clear HR
      go_enter Try.func34, Try.ntmps34
      go_wp2_with fail
      refine (getText_any a _ cap b _ 40 _ HB.out rfl (by omega) (by omega) x k1 0 HG.out).mono ?_
      rintro e w' ⟨rfl, hw⟩
      have hw := hw.symm
      subst hw
      go_wp2_with fail
      refine (getText_any a _ cap b _ 40 _ HB.out rfl (by omega) (by omega) y k2 e2 HG2.out).mono ?_
      rintro e w'' ⟨rfl, hw⟩
      have hw := hw.symm
      subst hw
      go_wp2_with fail
      refine bodyPost_ret ?_ rfl ⟨rfl, rfl⟩
      simp [results, Try.results34, go_sem, str]
  · have hr := HR.out
    rw [if_pos he] at hr
    simp only [Prod.mk.injEq] at hr
    obtain ⟨rfl, rfl, rfl, rfl⟩ := hr
    have te : ((e1 : Int) == 0) = false := by simp; omega
    have te2 : ((e1 : Int) != 0) = true := by simp; omega
    clear HR
    go_enter Try.func34, Try.ntmps34
    go_wp2_with fail
    refine (getText_any a _ cap b _ 40 _ HB.out rfl (by omega) (by omega) x k1 e1 HG.out).mono ?_
    rintro e w' ⟨rfl, hw⟩
    have hw := hw.symm
    subst hw
    go_wp2_with fail
    refine bodyPost_ret ?_ rfl ⟨rfl, rfl⟩
    simp [results, Try.results34, go_sem, str]
set_option maxHeartbeats 4000000 in
set_option maxRecDepth 100000 in
theorem hd_is (a : Option Addr) (len cap : Nat) (b : List UInt8) (at' : Int) (w : World) (hlen : len = b.length) (hB : Byt w a cap b) (z0 : Zn) (k0 e0 : Nat) (hr : Z.hd1 b 3 [] at' = (z0, k0, e0)) :
    Calls Try.prog 32 #[.slice a len cap, .int .i64 at'] w fun e w' => e = .returned (.tuple #[zv z0, .int .i64 k0, .int .i64 e0]) ∧ Ex w w' := by
  subst hlen
  have HB : Hid (Byt w a cap b) := hB
  have hcl := hB.1
  have hcm := hB.2.1
  unfold maxLen at hcm
  have Hr : Hid (Z.hd1 b 3 [] at' = (z0, k0, e0)) := hr
  clear hB hr
  go_enter Try.func32, Try.ntmps32
  go_wp2_with fail
  go_loopw [8, 9, 10, 12] (fun kv iv ev jv wr => ∃ (i : Nat) (L : List Nat) (k : Int), i ≤ 3 ∧ jv = .int .i64 i ∧ kv = .int .i64 k ∧ Hid (L.length = i) ∧ Hid (0 < i → 0 ≤ k) ∧ Hid (∀ x ∈ L, x < 18446744073709551616) ∧ Hid (Z.hd1 b (3 - i) L k = (z0, k0, e0)) ∧ Hid (RowAt n64 67 wr (w.heap.size + 1) (L ++ List.replicate (3 - i) 0)) ∧ Hid (ZAt wr w.heap.size Z.zero 23) ∧ Hid (Ex w wr)) (fun kv iv ev jv wr => 3 - (intOf jv).toNat)
  case atStart =>
    refine ⟨0, [], at', by omega, by go_num, rfl, (rfl : ([] : List Nat).length = 0), (by omega : 0 < 0 → 0 ≤ at'), (by simp : ∀ x ∈ ([] : List Nat), x < 18446744073709551616), Hr, ?_, ?_, ?_⟩
    · have h := heap_alloc_new (w.alloc (zb Z.zero 23)) (.cells #[.int .u64 0, .int .u64 0, .int .u64 0] 67)
      have hs : (w.alloc (zb Z.zero 23)).heap.size = w.heap.size + 1 := by simp
      rw [hs] at h
      exact h
    · exact (ZAt.new w Z.zero 23).alloc _
    · show Ex _ _
      (repeat' (first | exact Below.refl _ _ | refine Below.alloc ?_ (by simp <;> omega) _))
  case round =>
    obtain ⟨i, L, k, hi3, rfl, rfl, HL, HK0, HL64, HR, HA, HZ, HX⟩ := hrel
    clear Hr
    by_cases hlt : i < 3
    · have hti : (i : Int) < 3 := by omega
      have tdi : decide ((i : Int) < 3) = true := by simp; omega
      obtain ⟨⟨x, k2, e⟩, hg⟩ : ∃ p, p = M.get b k := ⟨_, rfl⟩
      have HGet : Hid (M.get b k = (x, k2, e)) := hg.symm
      have hx64 : x < 18446744073709551616 := by have := (M.get_all b k).1; rw [← hg] at this; exact this
      obtain ⟨n, hn⟩ : ∃ n, 3 - i = n + 1 := ⟨2 - i, by omega⟩
      have hR := HR.out
      rw [hn] at hR
      have hrow := HA.out
      have hlr : (L ++ List.replicate (3 - i) 0).length = 3 := by have := HL.out; simp; omega
      have hcell := hrow.cell (k := i) (by omega)
      have hfro := hrow.frozen i
      obtain ⟨o9, ho9⟩ : ∃ o9, wr.cell? ⟨w.heap.size + 1, i, none⟩ = some o9 := ⟨_, hcell⟩
      have HZ2 : Hid (ZAt (wr.setCell ⟨w.heap.size + 1, i, none⟩ (.int .u64 (x : Int))) w.heap.size Z.zero 23) := HZ.out.other (by omega)
      have HX2 : Hid (Ex w (wr.setCell ⟨w.heap.size + 1, i, none⟩ (.int .u64 (x : Int)))) := Below.setCell HX.out (p := ⟨w.heap.size + 1, i, none⟩) (by simp) _
      by_cases he : e = 0
      · subst he
        rw [Z.hd1_step (by rw [← hg]), ← hg] at hR
        have HR2 : Hid (Z.hd1 b (3 - (i + 1)) (L ++ [x]) (k2 : Int) = (z0, k0, e0)) := (by rw [show 3 - (i + 1) = n by omega]; exact hR : Z.hd1 b (3 - (i + 1)) (L ++ [x]) (k2 : Int) = (z0, k0, e0))
        have HRS : Hid (RowAt n64 67 (wr.setCell ⟨w.heap.size + 1, i, none⟩ (.int .u64 (x : Int))) (w.heap.size + 1) ((L ++ [x]) ++ List.replicate (3 - (i + 1)) 0)) := (by have h := hrow.set (k := i) x rfl; rw [fill3 HL.out hlt x] at h; exact h : RowAt n64 67 (wr.setCell ⟨w.heap.size + 1, i, none⟩ (.int .u64 (x : Int))) (w.heap.size + 1) ((L ++ [x]) ++ List.replicate (3 - (i + 1)) 0))
        have HL2 : Hid ((L ++ [x]).length = i + 1) := (by have := HL.out; simp; omega : (L ++ [x]).length = i + 1)
        have HL642 : Hid (∀ y ∈ L ++ [x], y < 18446744073709551616) := (fun y hy => by
          rcases List.mem_append.1 hy with h | h
          · exact HL64.out y h
          · simp at h; subst h; exact hx64 : ∀ y ∈ L ++ [x], y < 18446744073709551616)
        clear hrow hcell hlr hR hg hn
        go_wp2_with fail
        refine (get_is a _ cap b _ _ x k2 0 HGet.out (HB.out.below HX.out) rfl).mono ?_
        rintro e wq ⟨rfl, hw'⟩
        have hw'' := hw'.symm
        clear hw'
        subst hw''
        go_wp2_with fail
        go_roundw
        case rel => exact ⟨i + 1, L ++ [x], k2, by omega, by go_num, rfl, HL2, (fun _ => by omega : 0 < i + 1 → 0 ≤ (k2 : Int)), HL642, HR2, HRS, HZ2, HX2⟩
        case measure => simp [intOf]; omega
      · rw [Z.hd1_bad (by rw [← hg]; exact he), ← hg] at hR
        have HRES : Hid ((Z.zero, 0, e) = (z0, k0, e0)) := hR
        have te : ((e : Int) == 0) = false := by simp; omega
        have te3 : ((e : Int) != 0) = true := by simp; omega
        have te2 : decide (e = 0) = false := by simp; omega
        obtain ⟨w9, hw9⟩ : ∃ w9, w9 = wr.setCell ⟨w.heap.size + 1, i, none⟩ (.int .u64 (x : Int)) := ⟨_, rfl⟩
        rw [← hw9] at HZ2 HX2
        obtain ⟨p0, p1, p2, p3, p4, p5, p6⟩ := HZ2.out.all
        obtain ⟨q0, q1, q2, q3, q4, q5, q6⟩ := HZ2.out.fro
        have HW9 : Hid (w9 = wr.setCell ⟨w.heap.size + 1, i, none⟩ (.int .u64 (x : Int))) := hw9
        clear hrow hcell hlr hR hg hn hw9
        go_wp2_with fail
        refine (get_is a _ cap b _ _ x k2 e HGet.out (HB.out.below HX.out) rfl).mono ?_
        rintro e wq ⟨rfl, hw'⟩
        have hw'' := hw'.symm
        clear hw'
        subst hw''
        go_upto_region 8 with fail
        rw [← HW9.out]
        go_wp2_with fail
        have hZ9 := ZAt.store HZ2.out Z.zero
        have hX9 := Below.zset HX2.out (Nat.le_refl _) Z.zero
        have hf := HRES.out
        simp only [Prod.mk.injEq] at hf
        obtain ⟨rfl, rfl, rfl⟩ := hf
        exact bodyPost_ret (v := .tuple #[zv Z.zero, .int .i64 0, .int .i64 e]) (res_zone3 Try.results32 rfl rfl rfl hZ9) rfl ⟨rfl, hX9⟩
    · have hti : ¬ (i : Int) < 3 := by omega
      obtain rfl : i = 3 := by omega
      rename World => wo
      obtain ⟨n0, n1, n2, rfl⟩ : ∃ n0 n1 n2, L = [n0, n1, n2] := by
        match L, HL.out with
        | [n0, n1, n2], _ => exact ⟨n0, n1, n2, rfl⟩
      have hA : RowAt n64 67 wo (w.heap.size + 1) [n0, n1, n2] := by simpa using HA.out
      have a0 : wo.cell? ⟨w.heap.size + 1, 0, none⟩ = some (.int .u64 (n0 : Int)) := hA.cell (k := 0) (by simp)
      have a1 : wo.cell? ⟨w.heap.size + 1, 1, none⟩ = some (.int .u64 (n1 : Int)) := hA.cell (k := 1) (by simp)
      have a2 : wo.cell? ⟨w.heap.size + 1, 2, none⟩ = some (.int .u64 (n2 : Int)) := hA.cell (k := 2) (by simp)
      have hn0 := HL64.out n0 (by simp)
      have hn1 := HL64.out n1 (by simp)
      have hn2 := HL64.out n2 (by simp)
      have hR : Z.hd2 [n0, n1, n2] k = (z0, k0, e0) := HR.out
      unfold Z.hd2 at hR
      simp only [List.getD_cons_zero, List.getD_cons_succ] at hR
      obtain ⟨k, rfl⟩ := Int.eq_ofNat_of_zero_le (HK0.out (by omega))
      obtain ⟨p0, p1, p2, p3, p4, p5, p6⟩ := HZ.out.all
      obtain ⟨q0, q1, q2, q3, q4, q5, q6⟩ := HZ.out.fro
      obtain ⟨q, hq⟩ : ∃ q, Z.head n0 n1 n2 = q := ⟨_, rfl⟩
      rw [hq] at hR
      have HQ : Hid (Z.head n0 n1 n2 = q) := hq
      have HR2 : Hid (_ = (z0, k0, e0)) := hR
      clear hA hq hR
      go_wp2_with fail
      refine (head_is _ _ _ _ q HQ.out).mono ?_
      rintro e w' ⟨rfl, hw⟩
      have hw := hw.symm
      subst hw
      cases q with
      | false =>
        have hf := HR2.out
        rw [if_pos rfl] at hf
        have HRES : Hid ((Z.zero, 0, 12) = (z0, k0, e0)) := hf
        clear hf HR2
        go_wp2_with fail
        have hZ9 := ZAt.store HZ.out Z.zero
        have hX9 := Below.zset HX.out (Nat.le_refl _) Z.zero
        have hf := HRES.out
        simp only [Prod.mk.injEq] at hf
        obtain ⟨rfl, rfl, rfl⟩ := hf
        exact bodyPost_ret (v := .tuple #[zv Z.zero, .int .i64 0, .int .i64 12]) (res_zone3 Try.results32 rfl rfl rfl hZ9) rfl ⟨rfl, hX9⟩
      | true =>
        have hf := HR2.out
        rw [if_neg (by simp)] at hf
        have HRES : Hid (_ = (z0, k0, e0)) := hf
        have hn := (not_congr (Z.head_nat n0 n1 n2)).1 (by rw [HQ.out]; simp)
        have hm0 : n0 ≤ 2 := by omega
        have hm1 : n1 ≤ 1048576 := by omega
        have hm2 : n2 ≤ 1048576 := by omega
        clear hf HR2 hn
        go_wp2_with fail
        have hZ9 := ZAt.store HZ.out ⟨n0, n1, n2, 0, 0, [], []⟩
        have hX9 := Below.zset HX.out (Nat.le_refl _) ⟨n0, n1, n2, 0, 0, [], []⟩
        have hf := HRES.out
        simp only [Prod.mk.injEq, Int.toNat_natCast] at hf
        obtain ⟨rfl, rfl, rfl⟩ := hf
        exact bodyPost_ret (v := .tuple #[zv ⟨n0, n1, n2, 0, 0, [], []⟩, .int .i64 k, .int .i64 0]) (res_zone3 Try.results32 rfl rfl rfl hZ9) rfl ⟨rfl, hX9⟩
end Go.Proofs.Ytnfbmffafclaaaa
