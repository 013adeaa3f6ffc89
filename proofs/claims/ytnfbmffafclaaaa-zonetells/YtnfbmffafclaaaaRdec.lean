/-
  Decode of zones over the program.
-/
import Derived.Test.YtnfbmffafclaaaaRright
import Derived.Test.YtnfbmffafclaaaaZdec
namespace Go.Proofs.Ytnfbmffafclaaaa
open Go.RowKit
set_option linter.unusedVariables false
set_option linter.unusedSimpArgs false
set_option maxHeartbeats 8000000 in
set_option maxRecDepth 100000 in
theorem rdec_is (a : Option Addr) (len cap : Nat) (b : List UInt8) (at' : Int) (w : World) (hlen : len = b.length) (hB : Byt w a cap b) (z0 : Zn) (k0 e0 : Nat) (hr : Z.dec b at' = (z0, k0, e0)) :
    Calls Try.prog 17 #[.slice a len cap, .int .i64 at'] w fun e w' => e = .returned (.tuple #[zv z0, .int .i64 k0, .int .i64 e0]) ∧ Ex w w' := by
  subst hlen
  have HB : Hid (Byt w a cap b) := hB
  have hcl := hB.1
  have hcm := hB.2.1
  unfold maxLen at hcm
  have Hr : Hid (Z.dec1 b 3 [] at' = (z0, k0, e0)) := hr
  clear hB hr
  go_enter Try.func17, Try.ntmps17
  go_wp2_with fail
  go_loopw [8, 9] (fun kv iv wr => ∃ (i : Nat) (L : List Nat) (k : Int), i ≤ 3 ∧ iv = .int .i64 i ∧ kv = .int .i64 k ∧ Hid (L.length = i) ∧ Hid (0 < i → 0 ≤ k) ∧ Hid (∀ x ∈ L, x < 18446744073709551616) ∧ Hid (Z.dec1 b (3 - i) L k = (z0, k0, e0)) ∧ Hid (RowAt n64 67 wr (w.heap.size + 1) (L ++ List.replicate (3 - i) 0)) ∧ Hid (ZAt wr w.heap.size Z.zero 31) ∧ Hid (Ex w wr)) (fun kv iv wr => 3 - (intOf iv).toNat)
  case atStart =>
    refine ⟨0, [], at', by omega, rfl, rfl, (rfl : ([] : List Nat).length = 0), (by omega : 0 < 0 → 0 ≤ at'), (by simp : ∀ x ∈ ([] : List Nat), x < 18446744073709551616), Hr, ?_, ?_, ?_⟩
    · have h := heap_alloc_new (w.alloc (zb Z.zero 31)) (.cells #[.int .u64 0, .int .u64 0, .int .u64 0] 67)
      have hs : (w.alloc (zb Z.zero 31)).heap.size = w.heap.size + 1 := by simp
      rw [hs] at h
      exact h
    · exact (ZAt.new w Z.zero 31).alloc _
    · show Ex _ _
      (repeat' (first | exact Below.refl _ _ | refine Below.alloc ?_ (by simp <;> omega) _))
  case round =>
    obtain ⟨i, L, k, hi3, rfl, rfl, HL, HK0, HL64, HR, HA, HZ, HX⟩ := hrel
    clear Hr
    obtain ⟨p0, p1, p2, p3, p4, p5, p6⟩ := HZ.out.all
    obtain ⟨q0, q1, q2, q3, q4, q5, q6⟩ := HZ.out.fro
    by_cases hlt : i < 3
    · have hti : (i : Int) < 3 := by omega
      have tdi : decide ((i : Int) < 3) = true := by simp; omega
      obtain ⟨⟨x, k2, e⟩, hg⟩ : ∃ p, p = M.get b k := ⟨_, rfl⟩
      have HGet : Hid (M.get b k = (x, k2, e)) := hg.symm
      have hx64 : x < 18446744073709551616 := by have := (M.get_all b k).1; rw [← hg] at this; exact this
      obtain ⟨n, hn⟩ : ∃ n, 3 - i = n + 1 := ⟨2 - i, by omega⟩
      have hR := HR.out
      rw [hn] at hR
      by_cases he : e = 0
      · subst he
        rw [Z.dec1_step (by rw [← hg]), ← hg] at hR
        have HR2 : Hid (Z.dec1 b (3 - (i + 1)) (L ++ [x]) (k2 : Int) = (z0, k0, e0)) := (by rw [show 3 - (i + 1) = n by omega]; exact hR : Z.dec1 b (3 - (i + 1)) (L ++ [x]) (k2 : Int) = (z0, k0, e0))
        have hrow := HA.out
        have hlr : (L ++ List.replicate (3 - i) 0).length = 3 := by have := HL.out; simp; omega
        have hcell := hrow.cell (k := i) (by omega)
        have hfro := hrow.frozen i
        have HRS : Hid (RowAt n64 67 (wr.setCell ⟨w.heap.size + 1, i, none⟩ (.int .u64 (x : Int))) (w.heap.size + 1) ((L ++ [x]) ++ List.replicate (3 - (i + 1)) 0)) := (by have h := hrow.set (k := i) x rfl; rw [fill3 HL.out hlt x] at h; exact h : RowAt n64 67 (wr.setCell ⟨w.heap.size + 1, i, none⟩ (.int .u64 (x : Int))) (w.heap.size + 1) ((L ++ [x]) ++ List.replicate (3 - (i + 1)) 0))
        obtain ⟨o9, ho9⟩ : ∃ o9, wr.cell? ⟨w.heap.size + 1, i, none⟩ = some o9 := ⟨_, hcell⟩
        have HL2 : Hid ((L ++ [x]).length = i + 1) := (by have := HL.out; simp; omega : (L ++ [x]).length = i + 1)
        have HL642 : Hid (∀ y ∈ L ++ [x], y < 18446744073709551616) := (fun y hy => by
          rcases List.mem_append.1 hy with h | h
          · exact HL64.out y h
          · simp at h; subst h; exact hx64 : ∀ y ∈ L ++ [x], y < 18446744073709551616)
        have HZ2 : Hid (ZAt (wr.setCell ⟨w.heap.size + 1, i, none⟩ (.int .u64 (x : Int))) w.heap.size Z.zero 31) := HZ.out.other (by omega)
        have HX2 : Hid (Ex w (wr.setCell ⟨w.heap.size + 1, i, none⟩ (.int .u64 (x : Int)))) := Below.setCell HX.out (p := ⟨w.heap.size + 1, i, none⟩) (by simp) _
        clear hrow hcell hlr hR hg hn
        go_wp2_with fail
        refine (rget_is a _ cap b _ _ x k2 0 HGet.out (HB.out.below HX.out) rfl).mono ?_
        rintro e wq ⟨rfl, hw'⟩
        have hw'' := hw'.symm
        clear hw'
        subst hw''
        go_wp2_with fail
        go_roundw
        case rel => exact ⟨i + 1, L ++ [x], k2, by omega, by go_num, rfl, HL2, (fun _ => by omega : 0 < i + 1 → 0 ≤ (k2 : Int)), HL642, HR2, HRS, HZ2, HX2⟩
        case measure => simp [intOf]; omega
      · rw [Z.dec1_bad (by rw [← hg]; exact he), ← hg] at hR
        have HRES : Hid ((Z.zero, 0, e) = (z0, k0, e0)) := hR
        have te : ((e : Int) == 0) = false := by simp; omega
        have te2 : decide (e = 0) = false := by simp; omega
        clear hR hg hn
        go_wp2_with fail
        refine (rget_is a _ cap b _ _ x k2 e HGet.out (HB.out.below HX.out) rfl).mono ?_
        rintro e wq ⟨rfl, hw'⟩
        have hw'' := hw'.symm
        clear hw'
        subst hw''
        go_wp2_with fail
        have hZ9 := ZAt.store HZ.out Z.zero
        have hX9 := Below.zset HX.out (Nat.le_refl _) Z.zero
        have hf := HRES.out
        simp only [Prod.mk.injEq] at hf
        obtain ⟨rfl, rfl, rfl⟩ := hf
        exact bodyPost_ret (v := .tuple #[zv Z.zero, .int .i64 0, .int .i64 e]) (rres_zone3 Try.results17 rfl rfl rfl hZ9) rfl ⟨rfl, hX9⟩
    · have hti : ¬ (i : Int) < 3 := by omega
      obtain rfl : i = 3 := by omega
      rename World => wo
      obtain ⟨n0, n1, n2, rfl⟩ : ∃ n0 n1 n2, L = [n0, n1, n2] := by
        match L, HL.out with
        | [n0, n1, n2], _ => exact ⟨n0, n1, n2, rfl⟩
      have hA : RowAt n64 67 wo (w.heap.size + 1) [n0, n1, n2] := by simpa using HA.out
      have a0 : wo.cell? ⟨w.heap.size + 1, 0, none⟩ = some (.int .u64 (n0 : Int)) := hA.cell (k := 0) (by simp)
      have a1 : wo.cell? ⟨w.heap.size + 1, 1, none⟩ = some (.int .u64 (n1 : Int)) := hA.cell (k := 1) (by simp)
      have a2 : wo.cell? ⟨w.heap.size + 1, 2, none⟩ = some (.int .u64 (n2 : Int)) := hA.cell (k := 2) (by simp)
      have hn0 := HL64.out n0 (by simp)
      have hn1 := HL64.out n1 (by simp)
      have hn2 := HL64.out n2 (by simp)
      have hR : Z.dec2 b [n0, n1, n2] k = (z0, k0, e0) := HR.out
      unfold Z.dec2 at hR
      simp only [List.getD_cons_zero, List.getD_cons_succ] at hR
      obtain ⟨k, rfl⟩ := Int.eq_ofNat_of_zero_le (HK0.out (by omega))
      clear hA
      by_cases hk : n0 ≠ 1 ∧ n0 ≠ 2
      · rw [if_pos (.inl hk)] at hR
        have HRES : Hid ((Z.zero, 0, 12) = (z0, k0, e0)) := hR
        have tk1 : ((n0 : Int) == 1) = false := by simp; omega
        have tk2 : ((n0 : Int) == 2) = false := by simp; omega
        have tk3 : decide (n0 = 1) = false := by simp; omega
        have tk4 : decide (n0 = 2) = false := by simp; omega
        have hk1 : ¬ n0 = 1 := hk.1
        have hk2 : ¬ n0 = 2 := hk.2
        have tk5 : (n0 == 1) = false := by simp; omega
        have tk6 : (n0 == 2) = false := by simp; omega
        clear hR hk
        go_wp2_with fail
        have hZ9 := ZAt.store HZ.out Z.zero
        have hX9 := Below.zset HX.out (Nat.le_refl _) Z.zero
        have hf := HRES.out
        simp only [Prod.mk.injEq] at hf
        obtain ⟨rfl, rfl, rfl⟩ := hf
        exact bodyPost_ret (v := .tuple #[zv Z.zero, .int .i64 0, .int .i64 12]) (rres_zone3 Try.results17 rfl rfl rfl hZ9) rfl ⟨rfl, hX9⟩
      · have hk' : n0 = 1 ∨ n0 = 2 := by omega
        clear hk
        rcases hk' with rfl | rfl
        · by_cases hb1 : 1048576 < n1
          · rw [if_pos (.inr (.inl hb1))] at hR
            have HRES : Hid ((Z.zero, 0, 12) = (z0, k0, e0)) := hR
            have tb : decide ((1048576 : Int) < (n1 : Int)) = true := by simp; omega
            have tb2 : decide (1048576 < n1) = true := by simp; omega
            clear hR
            go_wp2_with fail
            have hZ9 := ZAt.store HZ.out Z.zero
            have hX9 := Below.zset HX.out (Nat.le_refl _) Z.zero
            have hf := HRES.out
            simp only [Prod.mk.injEq] at hf
            obtain ⟨rfl, rfl, rfl⟩ := hf
            exact bodyPost_ret (v := .tuple #[zv Z.zero, .int .i64 0, .int .i64 12]) (rres_zone3 Try.results17 rfl rfl rfl hZ9) rfl ⟨rfl, hX9⟩
          · have tb : decide ((1048576 : Int) < (n1 : Int)) = false := by simp; omega
            have tb2 : decide (1048576 < n1) = false := by simp; omega
            by_cases hb2 : n1 < n2
            · rw [if_pos (.inr (.inr hb2))] at hR
              have HRES : Hid ((Z.zero, 0, 12) = (z0, k0, e0)) := hR
              have tc : decide ((n1 : Int) < (n2 : Int)) = true := by simp; omega
              have tc2 : decide (n1 < n2) = true := by simp; omega
              clear hR
              go_wp2_with fail
              have hZ9 := ZAt.store HZ.out Z.zero
              have hX9 := Below.zset HX.out (Nat.le_refl _) Z.zero
              have hf := HRES.out
              simp only [Prod.mk.injEq] at hf
              obtain ⟨rfl, rfl, rfl⟩ := hf
              exact bodyPost_ret (v := .tuple #[zv Z.zero, .int .i64 0, .int .i64 12]) (rres_zone3 Try.results17 rfl rfl rfl hZ9) rfl ⟨rfl, hX9⟩
            · have tc : decide ((n1 : Int) < (n2 : Int)) = false := by simp; omega
              have tc2 : decide (n1 < n2) = false := by simp; omega
              rw [if_neg (by omega)] at hR
              have hn1b : n1 ≤ 1048576 := by omega
              have hn2b : n2 ≤ 1048576 := by omega
              go_wp2_with fail
              have HT0 : Hid (Z.dec3 b 2 ⟨1, n1, n2, 0, 0, [], []⟩ (k : Int) = (z0, k0, e0)) := hR
              have HV0 : Hid (ZAt (wo.alloc (zb ⟨1, n1, n2, 0, 0, [], []⟩ 31)) wo.heap.size ⟨1, n1, n2, 0, 0, [], []⟩ 31) := ZAt.new wo _ 31
              have HZ0 : Hid (ZAt (wo.alloc (zb ⟨1, n1, n2, 0, 0, [], []⟩ 31)) w.heap.size Z.zero 31) := HZ.out.alloc _
              have HX0 : Hid (Ex w (wo.alloc (zb ⟨1, n1, n2, 0, 0, [], []⟩ 31))) := HX.out.trans ((Below.refl _ _).alloc (Nat.le_refl _) _)
              have hne : wo.heap.size ≠ w.heap.size := by have := HZ.out.lt; omega
              have hge : w.heap.size ≤ wo.heap.size := by have := HZ.out.lt; omega
              clear hR
              go_loopw [8, 14] (fun kv iv wr2 => ∃ (i k : Nat) (mn mx : Int) (ms xs : List UInt8), i ≤ 2 ∧ iv = .int .i64 i ∧ kv = .int .i64 (k : Int) ∧ Hid (Z.dec3 b (2 - i) ⟨1, n1, n2, mn, mx, ms, xs⟩ (k : Int) = (z0, k0, e0)) ∧ Hid (ms.length ≤ 40 ∧ xs.length ≤ 40) ∧ Hid (ZAt wr2 wo.heap.size ⟨1, n1, n2, mn, mx, ms, xs⟩ 31) ∧ Hid (ZAt wr2 w.heap.size Z.zero 31) ∧ Hid (Ex w wr2)) (fun kv iv wr2 => 2 - (intOf iv).toNat)
              case atStart => exact ⟨0, k, 0, 0, [], [], by omega, rfl, rfl, HT0, (by simp : ([] : List UInt8).length ≤ 40 ∧ ([] : List UInt8).length ≤ 40), HV0, HZ0, HX0⟩
              case round =>
                obtain ⟨i, k, mn, mx, ms, xs, hi2, rfl, rfl, HD, HT, HV, HZ2, HX2⟩ := hrel
                clear HT0 HV0 HZ0 HX0
                by_cases hlt : i < 2
                · have hti : (i : Int) < 2 := by omega
                  have tdi : decide ((i : Int) < 2) = true := by simp; omega
                  by_cases hun : n2 < n1
                  · have tun : decide ((n2 : Int) < (n1 : Int)) = true := by simp; omega
                    have tun2 : decide (n2 < n1) = true := by simp; omega
                    obtain ⟨c0, c1, c2, c3, c4, c5, c6⟩ := HV.out.all
                    obtain ⟨f0, f1, f2, f3, f4, f5, f6⟩ := HV.out.fro
                    obtain ⟨y0, y1, y2, y3, y4, y5, y6⟩ := HZ2.out.all
                    obtain ⟨r0, r1, r2, r3, r4, r5, r6⟩ := HZ2.out.fro
                    obtain ⟨⟨x, t, k2, e⟩, hit⟩ : ∃ p, p = Z.it b 1 (k : Int) := ⟨_, rfl⟩
                    have hx64 : x < 18446744073709551616 := by have := Z.it_num (b := b) (K := 1) (k := (k : Int)); rw [← hit] at this; exact this
                    have ht40 : t.length ≤ 40 := by have := Z.it_text (b := b) (K := 1) (k := (k : Int)); rw [← hit] at this; exact this
                    obtain ⟨g, hg⟩ : ∃ g, M.zag (x : Int) = g := ⟨_, rfl⟩
                    have HG : Hid (M.zag (x : Int) = g) := hg
                    obtain ⟨n, hn⟩ : ∃ n, 2 - i = n + 1 := ⟨1 - i, by omega⟩
                    have hD := HD.out
                    rw [hn, Z.dec3, if_neg (by simp; omega)] at hD
                    simp only [← hit] at hD
                    have HGet : Hid (M.get b (k : Int) = (x, k2, e)) := (by have h := hit; unfold Z.it at h; rw [if_pos rfl] at h; simp only [Prod.mk.injEq] at h; exact Prod.ext h.1.symm (Prod.ext h.2.2.1.symm h.2.2.2.symm) : M.get b (k : Int) = (x, k2, e))
                    obtain rfl : t = [] := by have h := hit; unfold Z.it at h; rw [if_pos rfl] at h; simp only [Prod.mk.injEq] at h; exact h.2.1
                    by_cases he : e = 0
                    · subst he
                      rw [if_neg (by simp)] at hD
                      by_cases hi0 : i = 0
                      · subst hi0
                        obtain rfl : n = 1 := by omega
                        rw [if_pos rfl, hg] at hD
                        have HD2 : Hid (Z.dec3 b (2 - (0 + 1)) ⟨1, n1, n2, g, mx, [], xs⟩ (k2 : Int) = (z0, k0, e0)) := hD
                        have HT2 : Hid (([] : List UInt8).length ≤ 40 ∧ xs.length ≤ 40) := ⟨ht40, HT.out.2⟩
                        have HV2 : Hid (ZAt ((wr.setCell ⟨wo.heap.size, 3, none⟩ (.int .i64 g)).setCell ⟨wo.heap.size, 5, none⟩ (.string (str []))) wo.heap.size ⟨1, n1, n2, g, mx, [], xs⟩ 31) := (HV.out.set (k := 3) (z' := ⟨1, n1, n2, g, mx, ms, xs⟩) rfl).set (k := 5) (z' := ⟨1, n1, n2, g, mx, [], xs⟩) rfl
                        have HZ3 : Hid (ZAt ((wr.setCell ⟨wo.heap.size, 3, none⟩ (.int .i64 g)).setCell ⟨wo.heap.size, 5, none⟩ (.string (str []))) w.heap.size Z.zero 31) := (HZ2.out.other hne.symm).other hne.symm
                        have HX3 : Hid (Ex w ((wr.setCell ⟨wo.heap.size, 3, none⟩ (.int .i64 g)).setCell ⟨wo.heap.size, 5, none⟩ (.string (str [])))) := Below.setCell (Below.setCell HX2.out (p := ⟨wo.heap.size, 3, none⟩) hge _) (p := ⟨wo.heap.size, 5, none⟩) hge _
                        clear hD hit hg hn
                        go_wp2_with fail
                        refine (rget_is a _ cap b _ _ x k2 0 HGet.out (HB.out.below HX2.out) rfl).mono ?_
                        rintro e wq ⟨rfl, hw'⟩
                        have hw'' := hw'.symm
                        clear hw'
                        subst hw''
                        go_wp2_with fail
                        refine (rzag_any _ g _ (by omega) (by omega) HG.out).mono ?_
                        rintro e wq ⟨rfl, hw'⟩
                        have hw'' := hw'.symm
                        clear hw'
                        subst hw''
                        go_wp2_with fail
                        go_roundw
                        case rel => exact ⟨0 + 1, k2, g, mx, [], xs, by omega, by go_num, rfl, HD2, HT2, HV2, HZ3, HX3⟩
                        case measure => simp [intOf]
                      · obtain rfl : i = 1 := by omega
                        obtain rfl : n = 0 := by omega
                        rw [if_neg (by omega), hg] at hD
                        have HD2 : Hid (Z.dec3 b (2 - (1 + 1)) ⟨1, n1, n2, mn, g, ms, []⟩ (k2 : Int) = (z0, k0, e0)) := hD
                        have HT2 : Hid (ms.length ≤ 40 ∧ ([] : List UInt8).length ≤ 40) := ⟨HT.out.1, ht40⟩
                        have HV2 : Hid (ZAt ((wr.setCell ⟨wo.heap.size, 4, none⟩ (.int .i64 g)).setCell ⟨wo.heap.size, 6, none⟩ (.string (str []))) wo.heap.size ⟨1, n1, n2, mn, g, ms, []⟩ 31) := (HV.out.set (k := 4) (z' := ⟨1, n1, n2, mn, g, ms, xs⟩) rfl).set (k := 6) (z' := ⟨1, n1, n2, mn, g, ms, []⟩) rfl
                        have HZ3 : Hid (ZAt ((wr.setCell ⟨wo.heap.size, 4, none⟩ (.int .i64 g)).setCell ⟨wo.heap.size, 6, none⟩ (.string (str []))) w.heap.size Z.zero 31) := (HZ2.out.other hne.symm).other hne.symm
                        have HX3 : Hid (Ex w ((wr.setCell ⟨wo.heap.size, 4, none⟩ (.int .i64 g)).setCell ⟨wo.heap.size, 6, none⟩ (.string (str [])))) := Below.setCell (Below.setCell HX2.out (p := ⟨wo.heap.size, 4, none⟩) hge _) (p := ⟨wo.heap.size, 6, none⟩) hge _
                        clear hD hit hg hn
                        go_wp2_with fail
                        refine (rget_is a _ cap b _ _ x k2 0 HGet.out (HB.out.below HX2.out) rfl).mono ?_
                        rintro e wq ⟨rfl, hw'⟩
                        have hw'' := hw'.symm
                        clear hw'
                        subst hw''
                        go_wp2_with fail
                        refine (rzag_any _ g _ (by omega) (by omega) HG.out).mono ?_
                        rintro e wq ⟨rfl, hw'⟩
                        have hw'' := hw'.symm
                        clear hw'
                        subst hw''
                        go_wp2_with fail
                        go_roundw
                        case rel => exact ⟨1 + 1, k2, mn, g, ms, [], by omega, by go_num, rfl, HD2, HT2, HV2, HZ3, HX3⟩
                        case measure => simp [intOf]
                    · rw [if_pos he] at hD
                      have HRES : Hid ((Z.zero, 0, e) = (z0, k0, e0)) := hD
                      have te : ((e : Int) == 0) = false := by simp; omega
                      have te2 : decide (e = 0) = false := by simp; omega
                      clear hD hit hg hn
                      go_wp2_with fail
                      refine (rget_is a _ cap b _ _ x k2 e HGet.out (HB.out.below HX2.out) rfl).mono ?_
                      rintro e wq ⟨rfl, hw'⟩
                      have hw'' := hw'.symm
                      clear hw'
                      subst hw''
                      go_wp2_with fail
                      have hZ9 := ZAt.store HZ2.out Z.zero
                      have hX9 := Below.zset HX2.out (Nat.le_refl _) Z.zero
                      have hf := HRES.out
                      simp only [Prod.mk.injEq] at hf
                      obtain ⟨rfl, rfl, rfl⟩ := hf
                      exact bodyPost_ret (v := .tuple #[zv Z.zero, .int .i64 0, .int .i64 e]) (rres_zone3 Try.results17 rfl rfl rfl hZ9) rfl ⟨rfl, hX9⟩
                  · have tun : decide ((n2 : Int) < (n1 : Int)) = false := by simp; omega
                    have tun2 : decide (n2 < n1) = false := by simp; omega
                    obtain ⟨n, hn⟩ : ∃ n, 2 - i = n + 1 := ⟨1 - i, by omega⟩
                    have hR := HD.out
                    rw [hn, Z.dec3, if_pos (by simp; omega)] at hR
                    clear hn
                    unfold Z.fin at hR
                    obtain ⟨c0, c1, c2, c3, c4, c5, c6⟩ := HV.out.all
                    cases hrt : Z.right ⟨1, n1, n2, mn, mx, ms, xs⟩ with
                    | false =>
                      rw [hrt, if_neg (by simp)] at hR
                      have HRES : Hid ((Z.zero, 0, 12) = (z0, k0, e0)) := hR
                      have HRT : Hid (Z.right ⟨1, n1, n2, mn, mx, ms, xs⟩ = false) := hrt
                      clear hR hrt
                      go_wp2_with fail
                      refine (rright_is ⟨1, n1, n2, mn, mx, ms, xs⟩ _ (by have := HT.out.1; simp only [maxLen]; omega) (by have := HT.out.2; simp only [maxLen]; omega) false HRT.out).mono ?_
                      rintro e w3 ⟨rfl, hx3⟩
                      have HX3 : Hid (Ex w w3) := HX2.out.trans hx3
                      have HZ3 : Hid (ZAt w3 w.heap.size Z.zero 31) := HZ2.out.below hx3
                      obtain ⟨y0, y1, y2, y3, y4, y5, y6⟩ := HZ3.out.all
                      obtain ⟨r0, r1, r2, r3, r4, r5, r6⟩ := HZ3.out.fro
                      clear hx3
                      go_wp2_with fail
                      have hZ9 := ZAt.store HZ3.out Z.zero
                      have hX9 := Below.zset HX3.out (Nat.le_refl _) Z.zero
                      have hf := HRES.out
                      simp only [Prod.mk.injEq] at hf
                      obtain ⟨rfl, rfl, rfl⟩ := hf
                      exact bodyPost_ret (v := .tuple #[zv Z.zero, .int .i64 0, .int .i64 12]) (rres_zone3 Try.results17 rfl rfl rfl hZ9) rfl ⟨rfl, hX9⟩
                    | true =>
                      rw [hrt, if_pos rfl] at hR
                      simp only [Prod.mk.injEq] at hR
                      have HRES : Hid (⟨1, n1, n2, mn, mx, ms, xs⟩ = z0 ∧ ((k : Int).toNat = k0) ∧ 0 = e0) := hR
                      have HRT : Hid (Z.right ⟨1, n1, n2, mn, mx, ms, xs⟩ = true) := hrt
                      clear hR hrt
                      go_wp2_with fail
                      refine (rright_is ⟨1, n1, n2, mn, mx, ms, xs⟩ _ (by have := HT.out.1; simp only [maxLen]; omega) (by have := HT.out.2; simp only [maxLen]; omega) true HRT.out).mono ?_
                      rintro e w3 ⟨rfl, hx3⟩
                      have HX3 : Hid (Ex w w3) := HX2.out.trans hx3
                      have HZ3 : Hid (ZAt w3 w.heap.size Z.zero 31) := HZ2.out.below hx3
                      have HV3 : Hid (ZAt w3 wo.heap.size ⟨1, n1, n2, mn, mx, ms, xs⟩ 31) := HV.out.below hx3
                      obtain ⟨y0, y1, y2, y3, y4, y5, y6⟩ := HZ3.out.all
                      obtain ⟨r0, r1, r2, r3, r4, r5, r6⟩ := HZ3.out.fro
                      obtain ⟨d0, d1, d2, d3, d4, d5, d6⟩ := HV3.out.all
                      clear hx3
                      go_wp2_with fail
                      have hZ9 := ZAt.store HZ3.out ⟨1, n1, n2, mn, mx, ms, xs⟩
                      have hX9 := Below.zset HX3.out (Nat.le_refl _) ⟨1, n1, n2, mn, mx, ms, xs⟩
                      obtain ⟨rfl, rfl, rfl⟩ := HRES.out
                      exact bodyPost_ret (v := .tuple #[zv ⟨1, n1, n2, mn, mx, ms, xs⟩, .int .i64 (k : Int), .int .i64 0]) (rres_zone3 Try.results17 rfl rfl rfl hZ9) rfl ⟨rfl, hX9⟩
                · have hti : ¬ (i : Int) < 2 := by omega
                  have tdi : decide ((i : Int) < 2) = false := by simp; omega
                  obtain rfl : i = 2 := by omega
                  have hR := HD.out
                  rw [show 2 - 2 = 0 from rfl, Z.dec3] at hR
                  unfold Z.fin at hR
                  obtain ⟨c0, c1, c2, c3, c4, c5, c6⟩ := HV.out.all
                  cases hrt : Z.right ⟨1, n1, n2, mn, mx, ms, xs⟩ with
                  | false =>
                    rw [hrt, if_neg (by simp)] at hR
                    have HRES : Hid ((Z.zero, 0, 12) = (z0, k0, e0)) := hR
                    have HRT : Hid (Z.right ⟨1, n1, n2, mn, mx, ms, xs⟩ = false) := hrt
                    clear hR hrt
                    go_wp2_with fail
                    refine (rright_is ⟨1, n1, n2, mn, mx, ms, xs⟩ _ (by have := HT.out.1; simp only [maxLen]; omega) (by have := HT.out.2; simp only [maxLen]; omega) false HRT.out).mono ?_
                    rintro e w3 ⟨rfl, hx3⟩
                    have HX3 : Hid (Ex w w3) := HX2.out.trans hx3
                    have HZ3 : Hid (ZAt w3 w.heap.size Z.zero 31) := HZ2.out.below hx3
                    obtain ⟨y0, y1, y2, y3, y4, y5, y6⟩ := HZ3.out.all
                    obtain ⟨r0, r1, r2, r3, r4, r5, r6⟩ := HZ3.out.fro
                    clear hx3
                    go_wp2_with fail
                    have hZ9 := ZAt.store HZ3.out Z.zero
                    have hX9 := Below.zset HX3.out (Nat.le_refl _) Z.zero
                    have hf := HRES.out
                    simp only [Prod.mk.injEq] at hf
                    obtain ⟨rfl, rfl, rfl⟩ := hf
                    exact bodyPost_ret (v := .tuple #[zv Z.zero, .int .i64 0, .int .i64 12]) (rres_zone3 Try.results17 rfl rfl rfl hZ9) rfl ⟨rfl, hX9⟩
                  | true =>
                    rw [hrt, if_pos rfl] at hR
                    simp only [Prod.mk.injEq] at hR
                    have HRES : Hid (⟨1, n1, n2, mn, mx, ms, xs⟩ = z0 ∧ ((k : Int).toNat = k0) ∧ 0 = e0) := hR
                    have HRT : Hid (Z.right ⟨1, n1, n2, mn, mx, ms, xs⟩ = true) := hrt
                    clear hR hrt
                    go_wp2_with fail
                    refine (rright_is ⟨1, n1, n2, mn, mx, ms, xs⟩ _ (by have := HT.out.1; simp only [maxLen]; omega) (by have := HT.out.2; simp only [maxLen]; omega) true HRT.out).mono ?_
                    rintro e w3 ⟨rfl, hx3⟩
                    have HX3 : Hid (Ex w w3) := HX2.out.trans hx3
                    have HZ3 : Hid (ZAt w3 w.heap.size Z.zero 31) := HZ2.out.below hx3
                    have HV3 : Hid (ZAt w3 wo.heap.size ⟨1, n1, n2, mn, mx, ms, xs⟩ 31) := HV.out.below hx3
                    obtain ⟨y0, y1, y2, y3, y4, y5, y6⟩ := HZ3.out.all
                    obtain ⟨r0, r1, r2, r3, r4, r5, r6⟩ := HZ3.out.fro
                    obtain ⟨d0, d1, d2, d3, d4, d5, d6⟩ := HV3.out.all
                    clear hx3
                    go_wp2_with fail
                    have hZ9 := ZAt.store HZ3.out ⟨1, n1, n2, mn, mx, ms, xs⟩
                    have hX9 := Below.zset HX3.out (Nat.le_refl _) ⟨1, n1, n2, mn, mx, ms, xs⟩
                    obtain ⟨rfl, rfl, rfl⟩ := HRES.out
                    exact bodyPost_ret (v := .tuple #[zv ⟨1, n1, n2, mn, mx, ms, xs⟩, .int .i64 (k : Int), .int .i64 0]) (rres_zone3 Try.results17 rfl rfl rfl hZ9) rfl ⟨rfl, hX9⟩
        · by_cases hb1 : 1048576 < n1
          · rw [if_pos (.inr (.inl hb1))] at hR
            have HRES : Hid ((Z.zero, 0, 12) = (z0, k0, e0)) := hR
            have tb : decide ((1048576 : Int) < (n1 : Int)) = true := by simp; omega
            have tb2 : decide (1048576 < n1) = true := by simp; omega
            clear hR
            go_wp2_with fail
            have hZ9 := ZAt.store HZ.out Z.zero
            have hX9 := Below.zset HX.out (Nat.le_refl _) Z.zero
            have hf := HRES.out
            simp only [Prod.mk.injEq] at hf
            obtain ⟨rfl, rfl, rfl⟩ := hf
            exact bodyPost_ret (v := .tuple #[zv Z.zero, .int .i64 0, .int .i64 12]) (rres_zone3 Try.results17 rfl rfl rfl hZ9) rfl ⟨rfl, hX9⟩
          · have tb : decide ((1048576 : Int) < (n1 : Int)) = false := by simp; omega
            have tb2 : decide (1048576 < n1) = false := by simp; omega
            by_cases hb2 : n1 < n2
            · rw [if_pos (.inr (.inr hb2))] at hR
              have HRES : Hid ((Z.zero, 0, 12) = (z0, k0, e0)) := hR
              have tc : decide ((n1 : Int) < (n2 : Int)) = true := by simp; omega
              have tc2 : decide (n1 < n2) = true := by simp; omega
              clear hR
              go_wp2_with fail
              have hZ9 := ZAt.store HZ.out Z.zero
              have hX9 := Below.zset HX.out (Nat.le_refl _) Z.zero
              have hf := HRES.out
              simp only [Prod.mk.injEq] at hf
              obtain ⟨rfl, rfl, rfl⟩ := hf
              exact bodyPost_ret (v := .tuple #[zv Z.zero, .int .i64 0, .int .i64 12]) (rres_zone3 Try.results17 rfl rfl rfl hZ9) rfl ⟨rfl, hX9⟩
            · have tc : decide ((n1 : Int) < (n2 : Int)) = false := by simp; omega
              have tc2 : decide (n1 < n2) = false := by simp; omega
              rw [if_neg (by omega)] at hR
              have hn1b : n1 ≤ 1048576 := by omega
              have hn2b : n2 ≤ 1048576 := by omega
              go_wp2_with fail
              have HT0 : Hid (Z.dec3 b 2 ⟨2, n1, n2, 0, 0, [], []⟩ (k : Int) = (z0, k0, e0)) := hR
              have HV0 : Hid (ZAt (wo.alloc (zb ⟨2, n1, n2, 0, 0, [], []⟩ 31)) wo.heap.size ⟨2, n1, n2, 0, 0, [], []⟩ 31) := ZAt.new wo _ 31
              have HZ0 : Hid (ZAt (wo.alloc (zb ⟨2, n1, n2, 0, 0, [], []⟩ 31)) w.heap.size Z.zero 31) := HZ.out.alloc _
              have HX0 : Hid (Ex w (wo.alloc (zb ⟨2, n1, n2, 0, 0, [], []⟩ 31))) := HX.out.trans ((Below.refl _ _).alloc (Nat.le_refl _) _)
              have hne : wo.heap.size ≠ w.heap.size := by have := HZ.out.lt; omega
              have hge : w.heap.size ≤ wo.heap.size := by have := HZ.out.lt; omega
              clear hR
              go_loopw [8, 14] (fun kv iv wr2 => ∃ (i k : Nat) (mn mx : Int) (ms xs : List UInt8), i ≤ 2 ∧ iv = .int .i64 i ∧ kv = .int .i64 (k : Int) ∧ Hid (Z.dec3 b (2 - i) ⟨2, n1, n2, mn, mx, ms, xs⟩ (k : Int) = (z0, k0, e0)) ∧ Hid (ms.length ≤ 40 ∧ xs.length ≤ 40) ∧ Hid (ZAt wr2 wo.heap.size ⟨2, n1, n2, mn, mx, ms, xs⟩ 31) ∧ Hid (ZAt wr2 w.heap.size Z.zero 31) ∧ Hid (Ex w wr2)) (fun kv iv wr2 => 2 - (intOf iv).toNat)
              case atStart => exact ⟨0, k, 0, 0, [], [], by omega, rfl, rfl, HT0, (by simp : ([] : List UInt8).length ≤ 40 ∧ ([] : List UInt8).length ≤ 40), HV0, HZ0, HX0⟩
              case round =>
                obtain ⟨i, k, mn, mx, ms, xs, hi2, rfl, rfl, HD, HT, HV, HZ2, HX2⟩ := hrel
                clear HT0 HV0 HZ0 HX0
                by_cases hlt : i < 2
                · have hti : (i : Int) < 2 := by omega
                  have tdi : decide ((i : Int) < 2) = true := by simp; omega
                  by_cases hun : n2 < n1
                  · have tun : decide ((n2 : Int) < (n1 : Int)) = true := by simp; omega
                    have tun2 : decide (n2 < n1) = true := by simp; omega
                    obtain ⟨c0, c1, c2, c3, c4, c5, c6⟩ := HV.out.all
                    obtain ⟨f0, f1, f2, f3, f4, f5, f6⟩ := HV.out.fro
                    obtain ⟨y0, y1, y2, y3, y4, y5, y6⟩ := HZ2.out.all
                    obtain ⟨r0, r1, r2, r3, r4, r5, r6⟩ := HZ2.out.fro
                    obtain ⟨⟨x, t, k2, e⟩, hit⟩ : ∃ p, p = Z.it b 2 (k : Int) := ⟨_, rfl⟩
                    have hx64 : x < 18446744073709551616 := by have := Z.it_num (b := b) (K := 2) (k := (k : Int)); rw [← hit] at this; exact this
                    have ht40 : t.length ≤ 40 := by have := Z.it_text (b := b) (K := 2) (k := (k : Int)); rw [← hit] at this; exact this
                    obtain ⟨g, hg⟩ : ∃ g, M.zag (x : Int) = g := ⟨_, rfl⟩
                    have HG : Hid (M.zag (x : Int) = g) := hg
                    obtain ⟨n, hn⟩ : ∃ n, 2 - i = n + 1 := ⟨1 - i, by omega⟩
                    have hD := HD.out
                    rw [hn, Z.dec3, if_neg (by simp; omega)] at hD
                    simp only [← hit] at hD
                    have HGet : Hid (M.getText b (k : Int) 40 = (t, k2, e)) := (by have h := hit; unfold Z.it at h; rw [if_neg (by omega)] at h; simp only [Prod.mk.injEq] at h; exact Prod.ext h.2.1.symm (Prod.ext h.2.2.1.symm h.2.2.2.symm) : M.getText b (k : Int) 40 = (t, k2, e))
                    obtain rfl : x = 0 := by have h := hit; unfold Z.it at h; rw [if_neg (by omega)] at h; simp only [Prod.mk.injEq] at h; exact h.1
                    by_cases he : e = 0
                    · subst he
                      rw [if_neg (by simp)] at hD
                      by_cases hi0 : i = 0
                      · subst hi0
                        obtain rfl : n = 1 := by omega
                        rw [if_pos rfl, hg] at hD
                        have HD2 : Hid (Z.dec3 b (2 - (0 + 1)) ⟨2, n1, n2, g, mx, t, xs⟩ (k2 : Int) = (z0, k0, e0)) := hD
                        have HT2 : Hid (t.length ≤ 40 ∧ xs.length ≤ 40) := ⟨ht40, HT.out.2⟩
                        have HV2 : Hid (ZAt ((wr.setCell ⟨wo.heap.size, 3, none⟩ (.int .i64 g)).setCell ⟨wo.heap.size, 5, none⟩ (.string (str t))) wo.heap.size ⟨2, n1, n2, g, mx, t, xs⟩ 31) := (HV.out.set (k := 3) (z' := ⟨2, n1, n2, g, mx, ms, xs⟩) rfl).set (k := 5) (z' := ⟨2, n1, n2, g, mx, t, xs⟩) rfl
                        have HZ3 : Hid (ZAt ((wr.setCell ⟨wo.heap.size, 3, none⟩ (.int .i64 g)).setCell ⟨wo.heap.size, 5, none⟩ (.string (str t))) w.heap.size Z.zero 31) := (HZ2.out.other hne.symm).other hne.symm
                        have HX3 : Hid (Ex w ((wr.setCell ⟨wo.heap.size, 3, none⟩ (.int .i64 g)).setCell ⟨wo.heap.size, 5, none⟩ (.string (str t)))) := Below.setCell (Below.setCell HX2.out (p := ⟨wo.heap.size, 3, none⟩) hge _) (p := ⟨wo.heap.size, 5, none⟩) hge _
                        clear hD hit hg hn
                        go_wp2_with fail
                        refine (rgetText_any a _ cap b _ 40 _ (HB.out.below HX2.out) rfl (by omega) (by omega) t k2 0 HGet.out).mono ?_
                        rintro e wq ⟨rfl, hw'⟩
                        have hw'' := hw'.symm
                        clear hw'
                        subst hw''
                        go_wp2_with fail
                        refine (rzag_any _ g _ (by omega) (by omega) HG.out).mono ?_
                        rintro e wq ⟨rfl, hw'⟩
                        have hw'' := hw'.symm
                        clear hw'
                        subst hw''
                        go_wp2_with fail
                        go_roundw
                        case rel => exact ⟨0 + 1, k2, g, mx, t, xs, by omega, by go_num, rfl, HD2, HT2, HV2, HZ3, HX3⟩
                        case measure => simp [intOf]
                      · obtain rfl : i = 1 := by omega
                        obtain rfl : n = 0 := by omega
                        rw [if_neg (by omega), hg] at hD
                        have HD2 : Hid (Z.dec3 b (2 - (1 + 1)) ⟨2, n1, n2, mn, g, ms, t⟩ (k2 : Int) = (z0, k0, e0)) := hD
                        have HT2 : Hid (ms.length ≤ 40 ∧ t.length ≤ 40) := ⟨HT.out.1, ht40⟩
                        have HV2 : Hid (ZAt ((wr.setCell ⟨wo.heap.size, 4, none⟩ (.int .i64 g)).setCell ⟨wo.heap.size, 6, none⟩ (.string (str t))) wo.heap.size ⟨2, n1, n2, mn, g, ms, t⟩ 31) := (HV.out.set (k := 4) (z' := ⟨2, n1, n2, mn, g, ms, xs⟩) rfl).set (k := 6) (z' := ⟨2, n1, n2, mn, g, ms, t⟩) rfl
                        have HZ3 : Hid (ZAt ((wr.setCell ⟨wo.heap.size, 4, none⟩ (.int .i64 g)).setCell ⟨wo.heap.size, 6, none⟩ (.string (str t))) w.heap.size Z.zero 31) := (HZ2.out.other hne.symm).other hne.symm
                        have HX3 : Hid (Ex w ((wr.setCell ⟨wo.heap.size, 4, none⟩ (.int .i64 g)).setCell ⟨wo.heap.size, 6, none⟩ (.string (str t)))) := Below.setCell (Below.setCell HX2.out (p := ⟨wo.heap.size, 4, none⟩) hge _) (p := ⟨wo.heap.size, 6, none⟩) hge _
                        clear hD hit hg hn
                        go_wp2_with fail
                        refine (rgetText_any a _ cap b _ 40 _ (HB.out.below HX2.out) rfl (by omega) (by omega) t k2 0 HGet.out).mono ?_
                        rintro e wq ⟨rfl, hw'⟩
                        have hw'' := hw'.symm
                        clear hw'
                        subst hw''
                        go_wp2_with fail
                        refine (rzag_any _ g _ (by omega) (by omega) HG.out).mono ?_
                        rintro e wq ⟨rfl, hw'⟩
                        have hw'' := hw'.symm
                        clear hw'
                        subst hw''
                        go_wp2_with fail
                        go_roundw
                        case rel => exact ⟨1 + 1, k2, mn, g, ms, t, by omega, by go_num, rfl, HD2, HT2, HV2, HZ3, HX3⟩
                        case measure => simp [intOf]
                    · rw [if_pos he] at hD
                      have HRES : Hid ((Z.zero, 0, e) = (z0, k0, e0)) := hD
                      have te : ((e : Int) == 0) = false := by simp; omega
                      have te2 : decide (e = 0) = false := by simp; omega
                      clear hD hit hg hn
                      go_wp2_with fail
                      refine (rgetText_any a _ cap b _ 40 _ (HB.out.below HX2.out) rfl (by omega) (by omega) t k2 e HGet.out).mono ?_
                      rintro e wq ⟨rfl, hw'⟩
                      have hw'' := hw'.symm
                      clear hw'
                      subst hw''
                      go_wp2_with fail
                      have hZ9 := ZAt.store HZ2.out Z.zero
                      have hX9 := Below.zset HX2.out (Nat.le_refl _) Z.zero
                      have hf := HRES.out
                      simp only [Prod.mk.injEq] at hf
                      obtain ⟨rfl, rfl, rfl⟩ := hf
                      exact bodyPost_ret (v := .tuple #[zv Z.zero, .int .i64 0, .int .i64 e]) (rres_zone3 Try.results17 rfl rfl rfl hZ9) rfl ⟨rfl, hX9⟩
                  · have tun : decide ((n2 : Int) < (n1 : Int)) = false := by simp; omega
                    have tun2 : decide (n2 < n1) = false := by simp; omega
                    obtain ⟨n, hn⟩ : ∃ n, 2 - i = n + 1 := ⟨1 - i, by omega⟩
                    have hR := HD.out
                    rw [hn, Z.dec3, if_pos (by simp; omega)] at hR
                    clear hn
                    unfold Z.fin at hR
                    obtain ⟨c0, c1, c2, c3, c4, c5, c6⟩ := HV.out.all
                    cases hrt : Z.right ⟨2, n1, n2, mn, mx, ms, xs⟩ with
                    | false =>
                      rw [hrt, if_neg (by simp)] at hR
                      have HRES : Hid ((Z.zero, 0, 12) = (z0, k0, e0)) := hR
                      have HRT : Hid (Z.right ⟨2, n1, n2, mn, mx, ms, xs⟩ = false) := hrt
                      clear hR hrt
                      go_wp2_with fail
                      refine (rright_is ⟨2, n1, n2, mn, mx, ms, xs⟩ _ (by have := HT.out.1; simp only [maxLen]; omega) (by have := HT.out.2; simp only [maxLen]; omega) false HRT.out).mono ?_
                      rintro e w3 ⟨rfl, hx3⟩
                      have HX3 : Hid (Ex w w3) := HX2.out.trans hx3
                      have HZ3 : Hid (ZAt w3 w.heap.size Z.zero 31) := HZ2.out.below hx3
                      obtain ⟨y0, y1, y2, y3, y4, y5, y6⟩ := HZ3.out.all
                      obtain ⟨r0, r1, r2, r3, r4, r5, r6⟩ := HZ3.out.fro
                      clear hx3
                      go_wp2_with fail
                      have hZ9 := ZAt.store HZ3.out Z.zero
                      have hX9 := Below.zset HX3.out (Nat.le_refl _) Z.zero
                      have hf := HRES.out
                      simp only [Prod.mk.injEq] at hf
                      obtain ⟨rfl, rfl, rfl⟩ := hf
                      exact bodyPost_ret (v := .tuple #[zv Z.zero, .int .i64 0, .int .i64 12]) (rres_zone3 Try.results17 rfl rfl rfl hZ9) rfl ⟨rfl, hX9⟩
                    | true =>
                      rw [hrt, if_pos rfl] at hR
                      simp only [Prod.mk.injEq] at hR
                      have HRES : Hid (⟨2, n1, n2, mn, mx, ms, xs⟩ = z0 ∧ ((k : Int).toNat = k0) ∧ 0 = e0) := hR
                      have HRT : Hid (Z.right ⟨2, n1, n2, mn, mx, ms, xs⟩ = true) := hrt
                      clear hR hrt
                      go_wp2_with fail
                      refine (rright_is ⟨2, n1, n2, mn, mx, ms, xs⟩ _ (by have := HT.out.1; simp only [maxLen]; omega) (by have := HT.out.2; simp only [maxLen]; omega) true HRT.out).mono ?_
                      rintro e w3 ⟨rfl, hx3⟩
                      have HX3 : Hid (Ex w w3) := HX2.out.trans hx3
                      have HZ3 : Hid (ZAt w3 w.heap.size Z.zero 31) := HZ2.out.below hx3
                      have HV3 : Hid (ZAt w3 wo.heap.size ⟨2, n1, n2, mn, mx, ms, xs⟩ 31) := HV.out.below hx3
                      obtain ⟨y0, y1, y2, y3, y4, y5, y6⟩ := HZ3.out.all
                      obtain ⟨r0, r1, r2, r3, r4, r5, r6⟩ := HZ3.out.fro
                      obtain ⟨d0, d1, d2, d3, d4, d5, d6⟩ := HV3.out.all
                      clear hx3
                      go_wp2_with fail
                      have hZ9 := ZAt.store HZ3.out ⟨2, n1, n2, mn, mx, ms, xs⟩
                      have hX9 := Below.zset HX3.out (Nat.le_refl _) ⟨2, n1, n2, mn, mx, ms, xs⟩
                      obtain ⟨rfl, rfl, rfl⟩ := HRES.out
                      exact bodyPost_ret (v := .tuple #[zv ⟨2, n1, n2, mn, mx, ms, xs⟩, .int .i64 (k : Int), .int .i64 0]) (rres_zone3 Try.results17 rfl rfl rfl hZ9) rfl ⟨rfl, hX9⟩
                · have hti : ¬ (i : Int) < 2 := by omega
                  have tdi : decide ((i : Int) < 2) = false := by simp; omega
                  obtain rfl : i = 2 := by omega
                  have hR := HD.out
                  rw [show 2 - 2 = 0 from rfl, Z.dec3] at hR
                  unfold Z.fin at hR
                  obtain ⟨c0, c1, c2, c3, c4, c5, c6⟩ := HV.out.all
                  cases hrt : Z.right ⟨2, n1, n2, mn, mx, ms, xs⟩ with
                  | false =>
                    rw [hrt, if_neg (by simp)] at hR
                    have HRES : Hid ((Z.zero, 0, 12) = (z0, k0, e0)) := hR
                    have HRT : Hid (Z.right ⟨2, n1, n2, mn, mx, ms, xs⟩ = false) := hrt
                    clear hR hrt
                    go_wp2_with fail
                    refine (rright_is ⟨2, n1, n2, mn, mx, ms, xs⟩ _ (by have := HT.out.1; simp only [maxLen]; omega) (by have := HT.out.2; simp only [maxLen]; omega) false HRT.out).mono ?_
                    rintro e w3 ⟨rfl, hx3⟩
                    have HX3 : Hid (Ex w w3) := HX2.out.trans hx3
                    have HZ3 : Hid (ZAt w3 w.heap.size Z.zero 31) := HZ2.out.below hx3
                    obtain ⟨y0, y1, y2, y3, y4, y5, y6⟩ := HZ3.out.all
                    obtain ⟨r0, r1, r2, r3, r4, r5, r6⟩ := HZ3.out.fro
                    clear hx3
                    go_wp2_with fail
                    have hZ9 := ZAt.store HZ3.out Z.zero
                    have hX9 := Below.zset HX3.out (Nat.le_refl _) Z.zero
                    have hf := HRES.out
                    simp only [Prod.mk.injEq] at hf
                    obtain ⟨rfl, rfl, rfl⟩ := hf
                    exact bodyPost_ret (v := .tuple #[zv Z.zero, .int .i64 0, .int .i64 12]) (rres_zone3 Try.results17 rfl rfl rfl hZ9) rfl ⟨rfl, hX9⟩
                  | true =>
                    rw [hrt, if_pos rfl] at hR
                    simp only [Prod.mk.injEq] at hR
                    have HRES : Hid (⟨2, n1, n2, mn, mx, ms, xs⟩ = z0 ∧ ((k : Int).toNat = k0) ∧ 0 = e0) := hR
                    have HRT : Hid (Z.right ⟨2, n1, n2, mn, mx, ms, xs⟩ = true) := hrt
                    clear hR hrt
                    go_wp2_with fail
                    refine (rright_is ⟨2, n1, n2, mn, mx, ms, xs⟩ _ (by have := HT.out.1; simp only [maxLen]; omega) (by have := HT.out.2; simp only [maxLen]; omega) true HRT.out).mono ?_
                    rintro e w3 ⟨rfl, hx3⟩
                    have HX3 : Hid (Ex w w3) := HX2.out.trans hx3
                    have HZ3 : Hid (ZAt w3 w.heap.size Z.zero 31) := HZ2.out.below hx3
                    have HV3 : Hid (ZAt w3 wo.heap.size ⟨2, n1, n2, mn, mx, ms, xs⟩ 31) := HV.out.below hx3
                    obtain ⟨y0, y1, y2, y3, y4, y5, y6⟩ := HZ3.out.all
                    obtain ⟨r0, r1, r2, r3, r4, r5, r6⟩ := HZ3.out.fro
                    obtain ⟨d0, d1, d2, d3, d4, d5, d6⟩ := HV3.out.all
                    clear hx3
                    go_wp2_with fail
                    have hZ9 := ZAt.store HZ3.out ⟨2, n1, n2, mn, mx, ms, xs⟩
                    have hX9 := Below.zset HX3.out (Nat.le_refl _) ⟨2, n1, n2, mn, mx, ms, xs⟩
                    obtain ⟨rfl, rfl, rfl⟩ := HRES.out
                    exact bodyPost_ret (v := .tuple #[zv ⟨2, n1, n2, mn, mx, ms, xs⟩, .int .i64 (k : Int), .int .i64 0]) (rres_zone3 Try.results17 rfl rfl rfl hZ9) rfl ⟨rfl, hX9⟩
end Go.Proofs.Ytnfbmffafclaaaa
