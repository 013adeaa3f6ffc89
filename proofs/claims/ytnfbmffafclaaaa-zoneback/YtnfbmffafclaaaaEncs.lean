/-
  Of the landed zone: Encode.
-/
import Derived.Test.YtnfbmffafclaaaaRights
import Derived.Test.YtnfbmffafclaaaaZdec
namespace Go.Proofs.Ytnfbmffafclaaaa
open Go.RowKit
set_option linter.unusedVariables false
set_option linter.unusedSimpArgs false
theorem least_ex (z : Zn) (w : World) (r : Bool) (hr : Z.has z = r) : Calls Try.prog 24 #[zv z] w fun e w' => e = .returned (.bool r) ∧ Ex w w' :=
  (least_is z w r hr).mono fun e w' ⟨h1, h2⟩ => ⟨h1, by rw [h2]; exact (Below.refl _ _).alloc (Nat.le_refl _) _⟩
set_option maxHeartbeats 4000000 in
set_option maxRecDepth 100000 in
theorem enc_own (z : Zn) (w : World) (h1 : z.ms.length ≤ maxLen) (h2 : z.xs.length ≤ maxLen) (h3 : In64 z.mn) (h4 : In64 z.mx) (h5 : In64 z.k ∧ In64 z.r ∧ In64 z.u) (r : List UInt8) (e0 : Nat) (hr : Z.encE z = (r, e0)) :
    Calls Try.prog 9 #[zv z] w fun e w' => ∃ v, e = .returned (.tuple #[v, .int .i64 e0]) ∧ Own w' w.heap.size v r ∧ Ex w w' := by
  obtain ⟨h31, h32⟩ := h3
  obtain ⟨h41, h42⟩ := h4
  have H5 : Hid (In64 z.k ∧ In64 z.r ∧ In64 z.u) := h5
  clear h5
  have hx1 : Ex w (w.alloc (zb z 23)) := (Below.refl _ _).alloc (Nat.le_refl _) _
  have hz1 : ZAt (w.alloc (zb z 23)) w.heap.size z 23 := ZAt.new w z 23
  unfold Z.encE at hr
  cases hR : Z.right z with
  | false =>
    rw [hR, if_neg (by simp)] at hr
    simp only [Prod.mk.injEq] at hr
    obtain ⟨rfl, rfl⟩ := hr
    unfold zv
    go_enter Try.func9, Try.ntmps9
    go_wp2_with fail
    refine (right_is z _ h1 h2 H5.out.1 H5.out.2.1 H5.out.2.2 false hR).mono ?_
    rintro e w2 ⟨rfl, hx2⟩
    go_wp2_with fail
    go_ret2
    exact ⟨_, rfl, World.ownsRow_nil _ _ _ _, hx1.trans hx2⟩
  | true =>
    rw [hR, if_pos rfl] at hr
    simp only [Prod.mk.injEq] at hr
    obtain ⟨hr, rfl⟩ := hr
    unfold Z.enc at hr
    have hrows := Z.right_rows hR
    have hall := Z.right_all hR
    obtain ⟨K, hK⟩ : ∃ K : Nat, z.k = K := Int.eq_ofNat_of_zero_le (by omega)
    obtain ⟨R, hRr⟩ : ∃ R : Nat, z.r = R := Int.eq_ofNat_of_zero_le (by omega)
    obtain ⟨U, hU⟩ : ∃ U : Nat, z.u = U := Int.eq_ofNat_of_zero_le (by omega)
    have hK2 : K ≤ 2 := by omega
    have hR2 : R ≤ 1048576 := by omega
    have hU2 : U ≤ 1048576 := by omega
    have hUR : U ≤ R := by omega
    have hl0 := M.digs_len K
    have hl1 := M.digs_len R
    have hl2 := M.digs_len U
    rw [hK, hRr, hU] at hr
    simp only [Int.toNat_natCast] at hr
    have HR : Hid (Z.right z = true) := hR
    have HK : Hid (z.k = (K : Int)) := hK
    have HRr : Hid (z.r = (R : Int)) := hRr
    have HU : Hid (z.u = (U : Int)) := hU
    have hms : z.ms.length ≤ 40 := hall.2.1
    have hxs : z.xs.length ≤ 40 := hall.2.2
    have hKk : K = 1 ∨ K = 2 := by omega
    have HKk : Hid (K = 1 ∨ K = 2) := hKk
    obtain ⟨G1, hG1, hg1⟩ := zig_nat h31 h32
    obtain ⟨G2, hG2, hg2⟩ := zig_nat h41 h42
    rw [hG1, hG2] at hr
    simp only [Int.toNat_natCast] at hr
    have HG1 : Hid (M.zig z.mn = (G1 : Int)) := hG1
    have HG2 : Hid (M.zig z.mx = (G2 : Int)) := hG2
    have hlg1 := M.digs_len G1
    have hlg2 := M.digs_len G2
    have hls1 := M.digs_len z.ms.length
    have hls2 := M.digs_len z.xs.length
    have HX1 : Hid (Ex w (w.alloc (zb z 23))) := hx1
    have HZ1 : Hid (ZAt (w.alloc (zb z 23)) w.heap.size z 23) := hz1
    have Hr : Hid (_ = r) := hr
    clear hr hrows hall hK hRr hU hR hG1 hG2 hx1 hz1 hKk
    unfold zv
    go_enter Try.func9, Try.ntmps9
    go_wp2_with fail
    refine (right_is z _ h1 h2 H5.out.1 H5.out.2.1 H5.out.2.2 true HR.out).mono ?_
    rintro e w2 ⟨rfl, hx2⟩
    have HX2 : Hid (Ex w w2) := HX1.out.trans hx2
    have HZ2 : Hid (ZAt w2 w.heap.size ⟨K, R, U, z.mn, z.mx, z.ms, z.xs⟩ 23) := (by have h := HZ1.out.below hx2; rw [← HK.out, ← HRr.out, ← HU.out]; exact h : ZAt w2 w.heap.size ⟨K, R, U, z.mn, z.mx, z.ms, z.xs⟩ 23)
    clear hx2
    obtain ⟨i0, i1, i2, i3, i4, i5, i6⟩ := HZ2.out.all
    go_wp2_with fail
    refine (put_is none 0 0 [] (M.digs K) _ K _ rfl rfl (Byt.nil _) rfl (by omega) (by simp)).mono ?_
    rintro e w3 ⟨v, rfl, ho, hx⟩
    obtain ⟨a3, c3, rfl, hb⟩ := ho.byt
    have HO3 : Hid (Own w3 w.heap.size (.slice a3 (M.digs K).length c3) (M.digs K)) := (ho.mono HX2.out.size : Own w3 w.heap.size (.slice a3 (M.digs K).length c3) (M.digs K))
    have HB3 : Hid (Byt w3 a3 c3 (M.digs K)) := hb
    have HX3 : Hid (Ex w w3) := HX2.out.trans hx
    have HZ3 : Hid (ZAt w3 w.heap.size ⟨K, R, U, z.mn, z.mx, z.ms, z.xs⟩ 23) := HZ2.out.below hx
    clear ho hb hx i0 i1 i2 i3 i4 i5 i6
    obtain ⟨i0, i1, i2, i3, i4, i5, i6⟩ := HZ3.out.all
    go_wp2_with fail
    obtain ⟨L4, hL4⟩ : ∃ L, M.digs K ++ M.digs R = L := ⟨_, rfl⟩
    have HL4 : Hid (M.digs K ++ M.digs R = L4) := hL4
    have hlL4 : L4.length ≤ 20 := by rw [← hL4]; simp; omega
    clear hL4
    refine (put_is a3 _ c3 (M.digs K) L4 _ R _ rfl HL4.out HB3.out rfl (by omega) (by omega)).mono ?_
    rintro e w4 ⟨v, rfl, ho, hx⟩
    obtain ⟨a4, c4, rfl, hb⟩ := ho.byt
    have HO4 : Hid (Own w4 w.heap.size (.slice a4 (L4).length c4) (L4)) := (ho.mono HX3.out.size : Own w4 w.heap.size (.slice a4 (L4).length c4) (L4))
    have HB4 : Hid (Byt w4 a4 c4 (L4)) := hb
    have HX4 : Hid (Ex w w4) := HX3.out.trans hx
    have HZ4 : Hid (ZAt w4 w.heap.size ⟨K, R, U, z.mn, z.mx, z.ms, z.xs⟩ 23) := HZ3.out.below hx
    clear ho hb hx i0 i1 i2 i3 i4 i5 i6
    obtain ⟨i0, i1, i2, i3, i4, i5, i6⟩ := HZ4.out.all
    go_wp2_with fail
    obtain ⟨H, hH⟩ : ∃ L, L4 ++ M.digs U = L := ⟨_, rfl⟩
    have HH : Hid (L4 ++ M.digs U = H) := hH
    have hlH : H.length ≤ 30 := by rw [← hH]; simp; omega
    clear hH
    refine (put_is a4 _ c4 L4 H _ U _ rfl HH.out HB4.out rfl (by omega) (by omega)).mono ?_
    rintro e w5 ⟨v, rfl, ho, hx⟩
    obtain ⟨a5, c5, rfl, hb⟩ := ho.byt
    have HO5 : Hid (Own w5 w.heap.size (.slice a5 (H).length c5) (H)) := (ho.mono HX4.out.size : Own w5 w.heap.size (.slice a5 (H).length c5) (H))
    have HB5 : Hid (Byt w5 a5 c5 (H)) := hb
    have HX5 : Hid (Ex w w5) := HX4.out.trans hx
    have HZ5 : Hid (ZAt w5 w.heap.size ⟨K, R, U, z.mn, z.mx, z.ms, z.xs⟩ 23) := HZ4.out.below hx
    clear ho hb hx i0 i1 i2 i3 i4 i5 i6
    obtain ⟨i0, i1, i2, i3, i4, i5, i6⟩ := HZ5.out.all
    have hH : M.digs K ++ M.digs R ++ M.digs U = H := by rw [HL4.out]; exact HH.out
    have Hr2 : Hid (H ++ (if (R : Int) = (U : Int) then [] else if (K : Int) = 1 then M.digs G1 ++ M.digs G2 else M.digs z.ms.length ++ z.ms ++ M.digs z.xs.length ++ z.xs) = r) := (by rw [← hH]; exact Hr.out : H ++ (if (R : Int) = (U : Int) then [] else if (K : Int) = 1 then M.digs G1 ++ M.digs G2 else M.digs z.ms.length ++ z.ms ++ M.digs z.xs.length ++ z.xs) = r)
    clear hH Hr HO3 HB3 HO4 HB4 HZ3 HZ4 HL4 HH
    obtain ⟨q, hq⟩ : ∃ q, decide (U < R) = q := ⟨_, rfl⟩
    have HQ : Hid (Z.has ⟨K, R, U, z.mn, z.mx, z.ms, z.xs⟩ = q) := (by rw [← hq]; unfold Z.has; rw [decide_eq_decide]; simp : Z.has ⟨K, R, U, z.mn, z.mx, z.ms, z.xs⟩ = q)
    have HQ2 : Hid (decide (U < R) = q) := hq
    clear hq
    go_wp2_with fail
    refine (least_ex ⟨K, R, U, z.mn, z.mx, z.ms, z.xs⟩ _ q HQ.out).mono ?_
    rintro e w6 ⟨rfl, hx⟩
    have HO6 : Hid (Own w6 w.heap.size (.slice a5 H.length c5) H) := HO5.out.later hx
    have HB6 : Hid (Byt w6 a5 c5 H) := HB5.out.below hx
    have HX6 : Hid (Ex w w6) := HX5.out.trans hx
    have HZ6 : Hid (ZAt w6 w.heap.size ⟨K, R, U, z.mn, z.mx, z.ms, z.xs⟩ 23) := HZ5.out.below hx
    clear hx i0 i1 i2 i3 i4 i5 i6
    obtain ⟨i0, i1, i2, i3, i4, i5, i6⟩ := HZ6.out.all
    cases q with
    | false =>
      have hq := HQ2.out
      simp at hq
      have HF : Hid (H = r) := (by rw [← Hr2.out, if_pos (by omega)]; simp : H = r)
      clear hq
      go_wp2_with fail
      go_ret2
      exact ⟨_, rfl, by rw [← HF.out]; exact HO6.out, HX6.out⟩
    | true =>
      have hq := HQ2.out
      simp at hq
      have hr2 := Hr2.out
      rw [if_neg (by omega)] at hr2
      rcases HKk.out with hk1 | hk2
      · subst hk1
        rw [if_pos (by omega)] at hr2
        have Hr3 : Hid (H ++ (M.digs G1 ++ M.digs G2) = r) := hr2
        clear hr2
        go_wp2_with fail
        refine (zig_is z.mn (G1 : Int) _ h31 h32 HG1.out).mono ?_
        rintro e w' ⟨rfl, rfl⟩
        go_wp2_with fail
        obtain ⟨L7, hL7⟩ : ∃ L, H ++ M.digs G1 = L := ⟨_, rfl⟩
        have HL7 : Hid (H ++ M.digs G1 = L7) := hL7
        have hlL7 : L7.length ≤ 40 := by rw [← hL7]; simp; omega
        clear hL7
        refine (put_is a5 _ c5 H L7 _ G1 _ rfl HL7.out HB6.out rfl (by omega) (by omega)).mono ?_
        rintro e w7 ⟨v, rfl, ho, hx⟩
        obtain ⟨a7, c7, rfl, hb⟩ := ho.byt
        have HO7 : Hid (Own w7 w.heap.size (.slice a7 (L7).length c7) (L7)) := (ho.mono HX6.out.size : Own w7 w.heap.size (.slice a7 (L7).length c7) (L7))
        have HB7 : Hid (Byt w7 a7 c7 (L7)) := hb
        have HX7 : Hid (Ex w w7) := HX6.out.trans hx
        have HZ7 : Hid (ZAt w7 w.heap.size ⟨(1 : Nat), R, U, z.mn, z.mx, z.ms, z.xs⟩ 23) := HZ6.out.below hx
        clear ho hb hx i0 i1 i2 i3 i4 i5 i6
        obtain ⟨i0, i1, i2, i3, i4, i5, i6⟩ := HZ7.out.all
        go_wp2_with fail
        refine (zig_is z.mx (G2 : Int) _ h41 h42 HG2.out).mono ?_
        rintro e w' ⟨rfl, rfl⟩
        go_wp2_with fail
        obtain ⟨L8, hL8⟩ : ∃ L, L7 ++ M.digs G2 = L := ⟨_, rfl⟩
        have HL8 : Hid (L7 ++ M.digs G2 = L8) := hL8
        have hlL8 : L8.length ≤ 50 := by rw [← hL8]; simp; omega
        clear hL8
        refine (put_is a7 _ c7 L7 L8 _ G2 _ rfl HL8.out HB7.out rfl (by omega) (by omega)).mono ?_
        rintro e w8 ⟨v, rfl, ho, hx⟩
        obtain ⟨a8, c8, rfl, hb⟩ := ho.byt
        have HO8 : Hid (Own w8 w.heap.size (.slice a8 (L8).length c8) (L8)) := (ho.mono HX7.out.size : Own w8 w.heap.size (.slice a8 (L8).length c8) (L8))
        have HB8 : Hid (Byt w8 a8 c8 (L8)) := hb
        have HX8 : Hid (Ex w w8) := HX7.out.trans hx
        have HZ8 : Hid (ZAt w8 w.heap.size ⟨(1 : Nat), R, U, z.mn, z.mx, z.ms, z.xs⟩ 23) := HZ7.out.below hx
        clear ho hb hx i0 i1 i2 i3 i4 i5 i6
        obtain ⟨i0, i1, i2, i3, i4, i5, i6⟩ := HZ8.out.all
        go_wp2_with fail
        go_ret2
        exact ⟨_, rfl, by rw [← Hr3.out, ← List.append_assoc, HL7.out, HL8.out]; exact HO8.out, HX8.out⟩
      · subst hk2
        rw [if_neg (by omega)] at hr2
        have Hr3 : Hid (H ++ (M.digs z.ms.length ++ z.ms ++ M.digs z.xs.length ++ z.xs) = r) := hr2
        clear hr2
        go_wp2_with fail
        obtain ⟨L7, hL7⟩ : ∃ L, H ++ M.digs z.ms.length ++ z.ms = L := ⟨_, rfl⟩
        have HL7 : Hid (H ++ M.digs z.ms.length ++ z.ms = L7) := hL7
        have hlL7 : L7.length ≤ 80 := by rw [← hL7]; simp; omega
        clear hL7
        refine (putText_any a5 c5 H z.ms L7 _ HB6.out HL7.out (by omega)).mono ?_
        rintro e w7 ⟨v, rfl, ho, hx⟩
        obtain ⟨a7, c7, rfl, hb⟩ := ho.byt
        have HO7 : Hid (Own w7 w.heap.size (.slice a7 (L7).length c7) (L7)) := (ho.mono HX6.out.size : Own w7 w.heap.size (.slice a7 (L7).length c7) (L7))
        have HB7 : Hid (Byt w7 a7 c7 (L7)) := hb
        have HX7 : Hid (Ex w w7) := HX6.out.trans hx
        have HZ7 : Hid (ZAt w7 w.heap.size ⟨(2 : Nat), R, U, z.mn, z.mx, z.ms, z.xs⟩ 23) := HZ6.out.below hx
        clear ho hb hx i0 i1 i2 i3 i4 i5 i6
        obtain ⟨i0, i1, i2, i3, i4, i5, i6⟩ := HZ7.out.all
        go_wp2_with fail
        obtain ⟨L8, hL8⟩ : ∃ L, L7 ++ M.digs z.xs.length ++ z.xs = L := ⟨_, rfl⟩
        have HL8 : Hid (L7 ++ M.digs z.xs.length ++ z.xs = L8) := hL8
        have hlL8 : L8.length ≤ 130 := by rw [← hL8]; simp; omega
        clear hL8
        refine (putText_any a7 c7 L7 z.xs L8 _ HB7.out HL8.out (by omega)).mono ?_
        rintro e w8 ⟨v, rfl, ho, hx⟩
        obtain ⟨a8, c8, rfl, hb⟩ := ho.byt
        have HO8 : Hid (Own w8 w.heap.size (.slice a8 (L8).length c8) (L8)) := (ho.mono HX7.out.size : Own w8 w.heap.size (.slice a8 (L8).length c8) (L8))
        have HB8 : Hid (Byt w8 a8 c8 (L8)) := hb
        have HX8 : Hid (Ex w w8) := HX7.out.trans hx
        have HZ8 : Hid (ZAt w8 w.heap.size ⟨(2 : Nat), R, U, z.mn, z.mx, z.ms, z.xs⟩ 23) := HZ7.out.below hx
        clear ho hb hx i0 i1 i2 i3 i4 i5 i6
        obtain ⟨i0, i1, i2, i3, i4, i5, i6⟩ := HZ8.out.all
        go_wp2_with fail
        go_ret2
        exact ⟨_, rfl, by have h8 := HL8.out; rw [← HL7.out] at h8; have e8 : L8 = r := (by rw [← h8, ← Hr3.out]; simp); rw [← e8]; exact HO8.out, HX8.out⟩
end Go.Proofs.Ytnfbmffafclaaaa
