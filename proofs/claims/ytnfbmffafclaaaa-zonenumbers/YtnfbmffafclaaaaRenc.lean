/-
  Encode of zones over the program.
-/
import Derived.Test.YtnfbmffafclaaaaZbase
import Derived.Test.YtnfbmffafclaaaaRright
import Derived.Test.YtnfbmffafclaaaaZres
import Derived.Test.YtnfbmffafclaaaaOpens
import Derived.Test.YtnfbmffafclaaaaZstep
import Derived.Test.YtnfbmffafclaaaaRvarint
namespace Go.Proofs.Ytnfbmffafclaaaa
open Go.RowKit
set_option linter.unusedVariables false
set_option linter.unusedSimpArgs false
set_option maxHeartbeats 4000000 in
set_option maxRecDepth 100000 in
theorem renc_own (z : Zn) (w : World) (h1 : z.ms.length ≤ maxLen) (h2 : z.xs.length ≤ maxLen) (h3 : In64 z.mn) (h4 : In64 z.mx) (r : List UInt8) (e0 : Nat) (hr : Z.encE z = (r, e0)) :
    Calls Try.prog 10 #[zv z] w fun e w' => ∃ v, e = .returned (.tuple #[v, .int .i64 e0]) ∧ Own w' w.heap.size v r ∧ Ex w w' := by
  obtain ⟨h31, h32⟩ := h3
  obtain ⟨h41, h42⟩ := h4
  have hx1 : Ex w (w.alloc (zb z 31)) := (Below.refl _ _).alloc (Nat.le_refl _) _
  have hz1 : ZAt (w.alloc (zb z 31)) w.heap.size z 31 := ZAt.new w z 31
  unfold Z.encE at hr
  cases hR : Z.right z with
  | false =>
    rw [hR, if_neg (by simp)] at hr
    simp only [Prod.mk.injEq] at hr
    obtain ⟨rfl, rfl⟩ := hr
    unfold zv
    go_enter Try.func10, Try.ntmps10
    go_wp2_with fail
    refine (rright_is z _ h1 h2 false hR).mono ?_
    rintro e w2 ⟨rfl, hx2⟩
    go_wp2_with fail
    go_ret2
    exact ⟨_, rfl, World.ownsRow_nil _ _ _ _, hx1.trans hx2⟩
  | true =>
    rw [hR, if_pos rfl] at hr
    simp only [Prod.mk.injEq] at hr
    obtain ⟨hr, rfl⟩ := hr
    unfold Z.enc at hr
    have hrows := Z.right_rows hR
    have hall := Z.right_all hR
    obtain ⟨K, hK⟩ : ∃ K : Nat, z.k = K := Int.eq_ofNat_of_zero_le (by omega)
    obtain ⟨R, hRr⟩ : ∃ R : Nat, z.r = R := Int.eq_ofNat_of_zero_le (by omega)
    obtain ⟨U, hU⟩ : ∃ U : Nat, z.u = U := Int.eq_ofNat_of_zero_le (by omega)
    have hK2 : K ≤ 2 := by omega
    have hR2 : R ≤ 1048576 := by omega
    have hU2 : U ≤ 1048576 := by omega
    have hl0 := M.digs_len K
    have hl1 := M.digs_len R
    have hl2 := M.digs_len U
    rw [hK, hRr, hU] at hr
    simp only [Int.toNat_natCast] at hr
    have HR : Hid (Z.right z = true) := hR
    have HK : Hid (z.k = (K : Int)) := hK
    have HRr : Hid (z.r = (R : Int)) := hRr
    have HU : Hid (z.u = (U : Int)) := hU
    have hms : z.ms.length ≤ 40 := hall.2.1
    have hxs : z.xs.length ≤ 40 := hall.2.2
    have HKk : Hid (K = 1 ∨ K = 2) := (by omega : K = 1 ∨ K = 2)
    obtain ⟨G1, hG1, hg1⟩ := zig_nat h31 h32
    obtain ⟨G2, hG2, hg2⟩ := zig_nat h41 h42
    rw [hG1, hG2] at hr
    simp only [Int.toNat_natCast] at hr
    have HG1 : Hid (M.zig z.mn = (G1 : Int)) := hG1
    have HG2 : Hid (M.zig z.mx = (G2 : Int)) := hG2
    have hlg1 := M.digs_len G1
    have hlg2 := M.digs_len G2
    have hls1 := M.digs_len z.ms.length
    have hls2 := M.digs_len z.xs.length
    have HX1 : Hid (Ex w (w.alloc (zb z 31))) := hx1
    have HZ1 : Hid (ZAt (w.alloc (zb z 31)) w.heap.size z 31) := hz1
    have Hr : Hid (_ = r) := hr
    clear hr hrows hall hK hRr hU hR hG1 hG2 hx1 hz1
    unfold zv
    go_enter Try.func10, Try.ntmps10
    go_wp2_with fail
    refine (rright_is z _ h1 h2 true HR.out).mono ?_
    rintro e w2 ⟨rfl, hx2⟩
    have HX2 : Hid (Ex w w2) := HX1.out.trans hx2
    have HZ2 : Hid (ZAt w2 w.heap.size ⟨K, R, U, z.mn, z.mx, z.ms, z.xs⟩ 31) := (by have h := HZ1.out.below hx2; rw [← HK.out, ← HRr.out, ← HU.out]; exact h : ZAt w2 w.heap.size ⟨K, R, U, z.mn, z.mx, z.ms, z.xs⟩ 31)
    have HZ := HZ2
    have HW2 : Hid (w.heap.size ≤ w2.heap.size) := HX2.out.size
    clear hx2
    go_wp2_with fail
    have hre := Ex.refl
    refine Rg.wp_rows [.inl (Value.pointer (some ⟨w.heap.size, 0, none⟩)), .inl (Value.int .i64 (K : Int)), .inl (Value.int .u64 (K : Int)), .inr (IsByt (M.digs K)), .inl (Value.pointer (some ⟨w.heap.size, 1, none⟩)), .inl (Value.int .i64 (R : Int)), .inl (Value.int .u64 (R : Int)), .inr (IsByt (M.digs K ++ M.digs R)), .inl (Value.pointer (some ⟨w.heap.size, 2, none⟩)), .inl (Value.int .i64 (U : Int)), .inl (Value.int .u64 (U : Int)), .inr (fun v wx => Own wx w.heap.size v (M.digs K ++ M.digs R ++ M.digs U)), .inr (fun v wx => Own wx w.heap.size v (M.digs K ++ M.digs R ++ M.digs U))] (Ex w2) Ex 45 (by kernel_rfl) rfl (by kernel_rfl) ?st hre (Ex.drew _) ?goods ?fin
    case st => exact ⟨IsByt.stands _, IsByt.stands _, fun v w w' h hx => h.later hx, fun v w w' h hx => h.later hx, trivial⟩
    case goods =>
      refine Rg.goods_cons (Rg.good_field hre rfl rfl rfl (fun wx hC => by go_simp)) ?_
      refine Rg.goods_cons (Rg.good_load hre rfl rfl rfl (fun wx hC => by have hcz := (HZ.out.below hC).all; obtain ⟨c0, c1, c2, c3, c4, c5, c6⟩ := hcz; go_simp)) ?_
      refine Rg.goods_cons (Rg.good_conv hre rfl rfl (by rintro u wx _ rfl; go_simp; exact I.wraps64 _ (by omega) (by omega))) ?_
      refine Rg.goods_cons (Rg.good_call2 Try.func27 (by kernel_rfl) rfl rfl rfl (by rintro u u2 wx hC rfl rfl; exact byt_row' (rput_is none 0 0 [] (M.digs K) _ K wx rfl rfl (Byt.nil _) rfl (by omega) (by simp)) hC)) ?_
      refine Rg.goods_cons (Rg.good_field hre rfl rfl rfl (fun wx hC => by go_simp)) ?_
      refine Rg.goods_cons (Rg.good_load hre rfl rfl rfl (fun wx hC => by have hcz := (HZ.out.below hC).all; obtain ⟨c0, c1, c2, c3, c4, c5, c6⟩ := hcz; go_simp)) ?_
      refine Rg.goods_cons (Rg.good_conv hre rfl rfl (by rintro u wx _ rfl; go_simp; exact I.wraps64 _ (by omega) (by omega))) ?_
      refine Rg.goods_cons (Rg.good_call2 Try.func27 (by kernel_rfl) rfl rfl rfl (by rintro u u2 wx hC hu rfl; obtain ⟨pa, pc, rfl, pb⟩ := hu; exact byt_row' (rput_is pa _ pc (M.digs K) _ _ R wx rfl rfl pb rfl (by omega) (by omega)) hC)) ?_
      refine Rg.goods_cons (Rg.good_field hre rfl rfl rfl (fun wx hC => by go_simp)) ?_
      refine Rg.goods_cons (Rg.good_load hre rfl rfl rfl (fun wx hC => by have hcz := (HZ.out.below hC).all; obtain ⟨c0, c1, c2, c3, c4, c5, c6⟩ := hcz; go_simp)) ?_
      refine Rg.goods_cons (Rg.good_conv hre rfl rfl (by rintro u wx _ rfl; go_simp; exact I.wraps64 _ (by omega) (by omega))) ?_
      refine Rg.goods_cons (Rg.good_call2 Try.func27 (by kernel_rfl) rfl rfl rfl (by rintro u u2 wx hC hu rfl; obtain ⟨pa, pc, rfl, pb⟩ := hu; exact own_row (rput_is pa _ pc (M.digs K ++ M.digs R) _ _ U wx rfl rfl pb rfl (by omega) (by simp; omega)) HW2.out hC)) ?_
      refine Rg.goods_cons (Rg.good_assign hre rfl rfl rfl) ?_
      exact Rg.goods_nil
    case fin =>
      intro w3 hx3
      simp only [Rg.later, Act.put, List.setIfInBounds_toArray, List.set_cons_succ, List.set_cons_zero]
      intro v11 _ v15 _ v19 h19 v4 h4
      obtain ⟨H, hH⟩ : ∃ H, H = M.digs K ++ M.digs R ++ M.digs U := ⟨_, rfl⟩
      rw [← hH] at h4
      have HO4 : Hid (Own w3 w.heap.size v4 H) := h4
      have hHl : H.length ≤ 30 := by rw [hH]; simp; omega
      have Hr2 : Hid (H ++ (if (R : Int) = (U : Int) then [] else if (K : Int) = 1 then M.digs G1 ++ M.digs G2 else M.digs z.ms.length ++ z.ms ++ M.digs z.xs.length ++ z.xs) = r) := (by rw [hH]; exact Hr.out : H ++ (if (R : Int) = (U : Int) then [] else if (K : Int) = 1 then M.digs G1 ++ M.digs G2 else M.digs z.ms.length ++ z.ms ++ M.digs z.xs.length ++ z.xs) = r)
      obtain ⟨a4, c4, rfl, hb4⟩ := h4.byt
      have HB4 : Hid (Byt w3 a4 c4 H) := hb4
      have HX3 : Hid (Ex w w3) := HX2.out.trans hx3
      have HZ3 : Hid (ZAt w3 w.heap.size ⟨K, R, U, z.mn, z.mx, z.ms, z.xs⟩ 31) := HZ2.out.below hx3
      have HZ := HZ3
      have HW4 : Hid (w.heap.size ≤ w3.heap.size) := HX3.out.size
      obtain ⟨c0, c1, c2, c3, c4', c5, c6⟩ := HZ3.out.all
      clear hH h4 hb4 h19 hx3 HZ2 Hr
      by_cases hru : R = U
      · have tru : ((R : Int) == (U : Int)) = true := by simp; omega
        have HF : Hid (H = r) := (by rw [← Hr2.out, if_pos (by omega)]; simp : H = r)
        go_wp2_with fail
        go_ret2
        exact ⟨_, rfl, by rw [← HF.out]; exact HO4.out, HX3.out⟩
      · have tru : ((R : Int) == (U : Int)) = false := by simp; omega
        have hr2 := Hr2.out
        rw [if_neg (by omega)] at hr2
        by_cases hk1 : K = 1
        · have tk : ((K : Int) == 1) = true := by simp; omega
          rw [if_pos (by omega)] at hr2
          have Hr3 : Hid (H ++ (M.digs G1 ++ M.digs G2) = r) := hr2
          clear hr2
          go_wp2_with fail
          have hre := Ex.refl
          refine Rg.wp_rows [.inl (Value.slice a4 H.length c4), .inl (Value.pointer (some ⟨w.heap.size, 3, none⟩)), .inl (Value.int .i64 z.mn), .inl (Value.int .u64 (G1 : Int)), .inr (IsByt (H ++ M.digs G1)), .inl (Value.pointer (some ⟨w.heap.size, 4, none⟩)), .inl (Value.int .i64 z.mx), .inl (Value.int .u64 (G2 : Int)), .inr (fun v wx => Own wx w.heap.size v (H ++ M.digs G1 ++ M.digs G2)), .inr (fun v wx => Own wx w.heap.size v (H ++ M.digs G1 ++ M.digs G2)), .inl (.int .i64 (0))] (Ex w3) Ex 45 (by kernel_rfl) rfl (by kernel_rfl) ?st hre (Ex.drew _) ?goods ?fin
          case st => exact ⟨IsByt.stands _, fun v w w' h hx => h.later hx, fun v w w' h hx => h.later hx, trivial⟩
          case goods =>
            refine Rg.goods_cons (Rg.good_move hre rfl rfl rfl) ?_
            refine Rg.goods_cons (Rg.good_field hre rfl rfl rfl (fun wx hC => by go_simp)) ?_
            refine Rg.goods_cons (Rg.good_load hre rfl rfl rfl (fun wx hC => by have hcz := (HZ.out.below hC).all; obtain ⟨c0, c1, c2, c3, c4, c5, c6⟩ := hcz; go_simp)) ?_
            refine Rg.goods_cons (Rg.good_call1 Try.func28 (by kernel_rfl) rfl rfl rfl (by rintro u wx hC rfl; exact val_row (rzig_any _ _ wx (by omega) (by omega) HG1.out) hC)) ?_
            refine Rg.goods_cons (Rg.good_call2 Try.func27 (by kernel_rfl) rfl rfl rfl (by rintro u u2 wx hC rfl rfl; exact byt_row' (rput_is a4 _ c4 H _ _ G1 wx rfl rfl (HB4.out.below hC) rfl (by omega) (by omega)) hC)) ?_
            refine Rg.goods_cons (Rg.good_field hre rfl rfl rfl (fun wx hC => by go_simp)) ?_
            refine Rg.goods_cons (Rg.good_load hre rfl rfl rfl (fun wx hC => by have hcz := (HZ.out.below hC).all; obtain ⟨c0, c1, c2, c3, c4, c5, c6⟩ := hcz; go_simp)) ?_
            refine Rg.goods_cons (Rg.good_call1 Try.func28 (by kernel_rfl) rfl rfl rfl (by rintro u wx hC rfl; exact val_row (rzig_any _ _ wx (by omega) (by omega) HG2.out) hC)) ?_
            refine Rg.goods_cons (Rg.good_call2 Try.func27 (by kernel_rfl) rfl rfl rfl (by rintro u u2 wx hC hu rfl; obtain ⟨pa, pc, rfl, pb⟩ := hu; exact own_row (rput_is pa _ pc (H ++ M.digs G1) _ _ G2 wx rfl rfl pb rfl (by omega) (by simp; omega)) HW4.out hC)) ?_
            refine Rg.goods_cons (Rg.good_assign hre rfl rfl rfl) ?_
            refine Rg.goods_cons (Rg.good_assign hre rfl rfl rfl) ?_
            exact Rg.goods_nil
          case fin =>
            intro w5 hx5
            simp only [Rg.later, Act.put, List.setIfInBounds_toArray, List.set_cons_succ, List.set_cons_zero]
            intro v33 _ v37 h37 v2 h2
            go_wp2_with fail
            go_ret2
            exact ⟨_, rfl, by rw [← Hr3.out, ← List.append_assoc]; exact h2, HX3.out.trans hx5⟩
        · have tk : ((K : Int) == 1) = false := by simp; omega
          rw [if_neg (by omega)] at hr2
          have Hr3 : Hid (H ++ (M.digs z.ms.length ++ z.ms ++ M.digs z.xs.length ++ z.xs) = r) := hr2
          clear hr2
          go_wp2_with fail
          have hre := Ex.refl
          refine Rg.wp_rows [.inl (Value.slice a4 H.length c4), .inl (Value.pointer (some ⟨w.heap.size, 5, none⟩)), .inl (Value.string (str z.ms)), .inr (IsByt (H ++ M.digs z.ms.length ++ z.ms)), .inl (Value.pointer (some ⟨w.heap.size, 6, none⟩)), .inl (Value.string (str z.xs)), .inr (fun v wx => Own wx w.heap.size v (H ++ M.digs z.ms.length ++ z.ms ++ M.digs z.xs.length ++ z.xs)), .inr (fun v wx => Own wx w.heap.size v (H ++ M.digs z.ms.length ++ z.ms ++ M.digs z.xs.length ++ z.xs)), .inl (.int .i64 (0))] (Ex w3) Ex 45 (by kernel_rfl) rfl (by kernel_rfl) ?st hre (Ex.drew _) ?goods ?fin
          case st => exact ⟨IsByt.stands _, fun v w w' h hx => h.later hx, fun v w w' h hx => h.later hx, trivial⟩
          case goods =>
            refine Rg.goods_cons (Rg.good_move hre rfl rfl rfl) ?_
            refine Rg.goods_cons (Rg.good_field hre rfl rfl rfl (fun wx hC => by go_simp)) ?_
            refine Rg.goods_cons (Rg.good_load hre rfl rfl rfl (fun wx hC => by have hcz := (HZ.out.below hC).all; obtain ⟨c0, c1, c2, c3, c4, c5, c6⟩ := hcz; go_simp)) ?_
            refine Rg.goods_cons (Rg.good_call2 Try.func29 (by kernel_rfl) rfl rfl rfl (by rintro u u2 wx hC rfl rfl; exact byt_row' (rputText_any a4 c4 H z.ms _ wx (HB4.out.below hC) rfl (by omega)) hC)) ?_
            refine Rg.goods_cons (Rg.good_field hre rfl rfl rfl (fun wx hC => by go_simp)) ?_
            refine Rg.goods_cons (Rg.good_load hre rfl rfl rfl (fun wx hC => by have hcz := (HZ.out.below hC).all; obtain ⟨c0, c1, c2, c3, c4, c5, c6⟩ := hcz; go_simp)) ?_
            refine Rg.goods_cons (Rg.good_call2 Try.func29 (by kernel_rfl) rfl rfl rfl (by rintro u u2 wx hC hu rfl; obtain ⟨pa, pc, rfl, pb⟩ := hu; exact own_row (rputText_any pa pc (H ++ M.digs z.ms.length ++ z.ms) z.xs _ wx pb rfl (by simp; omega)) HW4.out hC)) ?_
            refine Rg.goods_cons (Rg.good_assign hre rfl rfl rfl) ?_
            refine Rg.goods_cons (Rg.good_assign hre rfl rfl rfl) ?_
            exact Rg.goods_nil
          case fin =>
            intro w5 hx5
            simp only [Rg.later, Act.put, List.setIfInBounds_toArray, List.set_cons_succ, List.set_cons_zero]
            intro v41 _ v44 h44 v2 h2
            go_wp2_with fail
            go_ret2
            exact ⟨_, rfl, by rw [← Hr3.out]; simpa using h2, HX3.out.trans hx5⟩
end Go.Proofs.Ytnfbmffafclaaaa
