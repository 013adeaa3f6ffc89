/-
  The landed prune: judgeZone: what a zone tells of a predicate without Kids.
-/
import Derived.Test.YtibnhjfeepdddaaM24
import Derived.BigQuiet
namespace Go.Proofs.Ytibnhjfeepdddaa
open Go.RowKit
set_option linter.unusedVariables false
set_option linter.unusedSimpArgs false
theorem Pu.znB_two (k n : Int) (t : List UInt8) (zk mn mx : Int) (ms xs : List UInt8) (A N : Bool) (h9 : k ≠ 9) : (if ((if k = 4 ∨ k = 5 then ((zk != 1) || A) else ((zk != 2) || A)) || Pu.nev k n t ⟨zk, 0, 0, mn, mx, ms, xs⟩) = true then 1 else if (N && Pu.alw k n t ⟨zk, 0, 0, mn, mx, ms, xs⟩) = true then 3 else 2) = Pu.znB k n t zk mn mx ms xs A N := by
 unfold Pu.znB
 rw [if_neg h9]
 by_cases hq : k = 4 ∨ k = 5
 ·rw [if_pos hq, if_pos hq]
  by_cases h1 : zk = 1
  ·subst h1
   cases A <;> simp [Bool.and_comm]
  ·have e : (zk != 1) = true := by simpa using h1
   rw [e]; simp [h1]
 ·rw [if_neg hq, if_neg hq]
  by_cases h1 : zk = 2
  ·subst h1
   cases A <;> simp [Bool.and_comm]
  ·have e : (zk != 2) = true := by simpa using h1
   rw [e]; simp [h1]
set_option maxHeartbeats 8000000 in
set_option maxRecDepth 100000 in
theorem pjz4_is (v : PV) (z : Zn) (w : World) (hs : v.s.length ≤ maxLen) (h1 : z.ms.length ≤ maxLen) (h2 : z.xs.length ≤ maxLen) (hk : v.k = 4) (o : Nat) (ho : Pu.zn v.k v.n v.s z = o) :
  Calls Try.prog 72 #[pvv v, zv z] w fun e w' => e = .returned (.int .i64 (o : Int)) ∧ Ex w w' := by
 obtain ⟨vk, vcol, vn, vm, vs, ⟨sa, sn, sc⟩, vkids⟩ := v
 obtain ⟨zk, zr, zu, zmn, zmx, zms, zxs⟩ := z
 simp only at hs h1 h2 ho hk
 have HO : Hid (Pu.zn vk vn vs ⟨zk, zr, zu, zmn, zmx, zms, zxs⟩ = o) := ho
 have HL : Hid (vs.length ≤ maxLen ∧ zms.length ≤ maxLen ∧ zxs.length ≤ maxLen) := (⟨hs, h1, h2⟩ : vs.length ≤ maxLen ∧ zms.length ≤ maxLen ∧ zxs.length ≤ maxLen)
 have HKK : Hid (vk = 4) := hk
 obtain ⟨W, hW⟩ : ∃ W, (w.alloc (pb ⟨vk, vcol, vn, vm, vs, (sa, sn, sc), vkids⟩)).alloc (zb ⟨zk, zr, zu, zmn, zmx, zms, zxs⟩ 25) = W := ⟨_, rfl⟩
 have hX1 : Ex w (w.alloc (pb ⟨vk, vcol, vn, vm, vs, (sa, sn, sc), vkids⟩)) := (Below.refl _ _).alloc (Nat.le_refl _) _
 have hXW : Ex w W := by rw [← hW]; exact Below.alloc hX1 (by simp) _
 have HXW : Hid (Ex w W) := hXW
 have hP : PAt W w.heap.size ⟨vk, vcol, vn, vm, vs, (sa, sn, sc), vkids⟩ := by rw [← hW]; exact (PAt.new w _).alloc _
 have hE : ZAt W (w.heap.size + 1) ⟨zk, zr, zu, zmn, zmx, zms, zxs⟩ 25 := by
  have h := ZAt.new (w.alloc (pb ⟨vk, vcol, vn, vm, vs, (sa, sn, sc), vkids⟩)) ⟨zk, zr, zu, zmn, zmx, zms, zxs⟩ 25
  have hs' : (w.alloc (pb ⟨vk, vcol, vn, vm, vs, (sa, sn, sc), vkids⟩)).heap.size = w.heap.size + 1 := by simp
  rw [hs'] at h
  rw [← hW]; exact h
 have HP : Hid (PAt W w.heap.size ⟨vk, vcol, vn, vm, vs, (sa, sn, sc), vkids⟩) := hP
 have HE : Hid (ZAt W (w.heap.size + 1) ⟨zk, zr, zu, zmn, zmx, zms, zxs⟩ 25) := hE
 obtain ⟨p0, p1, p2, p3, p4, p5, p6⟩ := hP.all
 obtain ⟨e0, e1, e2, e3, e4, e5, e6⟩ := hE.all
 simp only at p0 p1 p2 p3 p4 p5 p6 e0 e1 e2 e3 e4 e5 e6
 have z1 := str_toList vs
 have z2 := str_toList zms
 have z3 := str_toList zxs
 clear hP hE hX1 hXW ho hs h1 h2 hk
 unfold pvv zv
 simp only [sv]
 go_enter Try.func72, Try.ntmps72
 obtain ⟨A, hA⟩ : ∃ A, (zu == zr) = A := ⟨_, rfl⟩
 obtain ⟨N, hN⟩ : ∃ N, (zu == 0) = N := ⟨_, rfl⟩
 have HO2 : Hid (Pu.znB vk vn vs zk zmn zmx zms zxs A N = o) := (by rw [← HO.out, ← hA, ← hN]; exact (Pu.zn_form _ _ _ _ _ _ _ _ _ _).symm : Pu.znB vk vn vs zk zmn zmx zms zxs A N = o)
 clear HO
 obtain ⟨b1, hb1⟩ : ∃ b, (zk != 1) = b := ⟨_, rfl⟩
 obtain ⟨b2, hb2⟩ : ∃ b, (zk != 2) = b := ⟨_, rfl⟩
 obtain ⟨I, hI⟩ : ∃ b, (b1 || A) = b := ⟨_, rfl⟩
 obtain ⟨J, hJ⟩ : ∃ b, (b2 || A) = b := ⟨_, rfl⟩
 have HI : Hid ((b1 || A) = I) := hI
 have HJ : Hid ((b2 || A) = J) := hJ
 have HO3 : Hid (vk ≠ 9 → (if ((if vk = 4 ∨ vk = 5 then I else J) || Pu.nev vk vn vs ⟨zk, 0, 0, zmn, zmx, zms, zxs⟩) = true then 1 else if (N && Pu.alw vk vn vs ⟨zk, 0, 0, zmn, zmx, zms, zxs⟩) = true then 3 else 2) = o) := (by
  intro h9
  rw [← HO2.out, ← Pu.znB_two _ _ _ _ _ _ _ _ _ _ h9, hb1, hb2, hI, hJ] : vk ≠ 9 → _)
 have HO9 : Hid (vk = 9 → (if (N && !A) = true then 1 else if A = true then 3 else 2) = o) := (by
  intro h9
  rw [← HO2.out, h9]
  unfold Pu.znB
  rw [if_pos rfl]
  cases A <;> cases N <;> rfl : vk = 9 → (if (N && !A) = true then 1 else if A = true then 3 else 2) = o)
 clear hI hJ HO2
 go_wp2_with fail
 go_quiet (fail)
 clear p0 p1 p2 p3 p4 p5 p6 e0 e1 e2 e3 e4 e5 e6 hA hN
 obtain ⟨W9, hW9⟩ : ∃ W9, W9 = W.drewN nq := ⟨_, rfl⟩
 have hxx : Ex W W9 := by rw [hW9]; exact Ex.drewN _ _
 have HXW9 : Hid (Ex w W9) := (HXW.out.trans hxx : Ex w W9)
 obtain ⟨p0, p1, p2, p3, p4, p5, p6⟩ := (HP.out.below hxx).all
 obtain ⟨e0, e1, e2, e3, e4, e5, e6⟩ := (HE.out.below hxx).all
 simp only at p0 p1 p2 p3 p4 p5 p6 e0 e1 e2 e3 e4 e5 e6
 rw [← hW9]
 clear hxx hW9
 go_upto_region 2 with fail
 go_cut [7, 8] (fun a b wc => a = .bool I ∧ b = .bool J ∧ wc = W9)
 case first =>
  cases b1 <;> cases b2 <;> (go_wp2_with fail; go_meet; exact ⟨by rw [← HI.out]; rfl, by rw [← HJ.out]; rfl, rfl⟩)
 case rest =>
 obtain ⟨rfl, rfl, hwc⟩ := hcut
 replace hwc := hwc.symm
 subst hwc
 obtain ⟨nv, hnv⟩ : ∃ b : Bool, (if vk = 9 then (N && !A) else ((if vk = 4 ∨ vk = 5 then I else J) || Pu.nev vk vn vs ⟨zk, 0, 0, zmn, zmx, zms, zxs⟩)) = b := ⟨_, rfl⟩
 obtain ⟨al, hal⟩ : ∃ b : Bool, (if vk = 9 then A else (N && Pu.alw vk vn vs ⟨zk, 0, 0, zmn, zmx, zms, zxs⟩)) = b := ⟨_, rfl⟩
 have HNV : Hid ((if vk = 9 then (N && !A) else ((if vk = 4 ∨ vk = 5 then I else J) || Pu.nev vk vn vs ⟨zk, 0, 0, zmn, zmx, zms, zxs⟩)) = nv) := hnv
 have HAL : Hid ((if vk = 9 then A else (N && Pu.alw vk vn vs ⟨zk, 0, 0, zmn, zmx, zms, zxs⟩)) = al) := hal
 have HO4 : Hid ((if nv = true then 1 else if al = true then 3 else 2) = o) := (by
  by_cases h9 : vk = 9
  ·rw [if_pos h9] at hnv hal
   rw [← hnv, ← hal]; exact HO9.out h9
  ·rw [if_neg h9] at hnv hal
   rw [← hnv, ← hal]; exact HO3.out h9 : (if nv = true then 1 else if al = true then 3 else 2) = o)
 clear hnv hal HO3 HO9 HI HJ hb1 hb2
 go_upto_block 0 with fail
 go_cut [9, 10] (fun a b wc => a = .bool nv ∧ b = .bool al ∧ wc = W9)
 case first =>
  have h := HKK.out
  subst h
  cases I <;> cases N <;> (go_wp2_with fail; go_meet; exact ⟨by rw [← HNV.out]; rfl, by rw [← HAL.out]; rfl, rfl⟩)
 case rest =>
  obtain ⟨rfl, rfl, hwc⟩ := hcut
  replace hwc := hwc.symm
  subst hwc
  go_wp2_with fail
  go_at_call 70
  refine (pver_is nv al W9 o HO4.out).mono ?_
  rintro e w3 ⟨rfl, hw3⟩
  replace hw3 := hw3.symm
  subst hw3
  go_wp2_with fail
  go_ret
  exact ⟨rfl, HXW9.out⟩
set_option maxHeartbeats 8000000 in
set_option maxRecDepth 100000 in
theorem pjz5_is (v : PV) (z : Zn) (w : World) (hs : v.s.length ≤ maxLen) (h1 : z.ms.length ≤ maxLen) (h2 : z.xs.length ≤ maxLen) (hk : v.k = 5) (o : Nat) (ho : Pu.zn v.k v.n v.s z = o) :
  Calls Try.prog 72 #[pvv v, zv z] w fun e w' => e = .returned (.int .i64 (o : Int)) ∧ Ex w w' := by
 obtain ⟨vk, vcol, vn, vm, vs, ⟨sa, sn, sc⟩, vkids⟩ := v
 obtain ⟨zk, zr, zu, zmn, zmx, zms, zxs⟩ := z
 simp only at hs h1 h2 ho hk
 have HO : Hid (Pu.zn vk vn vs ⟨zk, zr, zu, zmn, zmx, zms, zxs⟩ = o) := ho
 have HL : Hid (vs.length ≤ maxLen ∧ zms.length ≤ maxLen ∧ zxs.length ≤ maxLen) := (⟨hs, h1, h2⟩ : vs.length ≤ maxLen ∧ zms.length ≤ maxLen ∧ zxs.length ≤ maxLen)
 have HKK : Hid (vk = 5) := hk
 obtain ⟨W, hW⟩ : ∃ W, (w.alloc (pb ⟨vk, vcol, vn, vm, vs, (sa, sn, sc), vkids⟩)).alloc (zb ⟨zk, zr, zu, zmn, zmx, zms, zxs⟩ 25) = W := ⟨_, rfl⟩
 have hX1 : Ex w (w.alloc (pb ⟨vk, vcol, vn, vm, vs, (sa, sn, sc), vkids⟩)) := (Below.refl _ _).alloc (Nat.le_refl _) _
 have hXW : Ex w W := by rw [← hW]; exact Below.alloc hX1 (by simp) _
 have HXW : Hid (Ex w W) := hXW
 have hP : PAt W w.heap.size ⟨vk, vcol, vn, vm, vs, (sa, sn, sc), vkids⟩ := by rw [← hW]; exact (PAt.new w _).alloc _
 have hE : ZAt W (w.heap.size + 1) ⟨zk, zr, zu, zmn, zmx, zms, zxs⟩ 25 := by
  have h := ZAt.new (w.alloc (pb ⟨vk, vcol, vn, vm, vs, (sa, sn, sc), vkids⟩)) ⟨zk, zr, zu, zmn, zmx, zms, zxs⟩ 25
  have hs' : (w.alloc (pb ⟨vk, vcol, vn, vm, vs, (sa, sn, sc), vkids⟩)).heap.size = w.heap.size + 1 := by simp
  rw [hs'] at h
  rw [← hW]; exact h
 have HP : Hid (PAt W w.heap.size ⟨vk, vcol, vn, vm, vs, (sa, sn, sc), vkids⟩) := hP
 have HE : Hid (ZAt W (w.heap.size + 1) ⟨zk, zr, zu, zmn, zmx, zms, zxs⟩ 25) := hE
 obtain ⟨p0, p1, p2, p3, p4, p5, p6⟩ := hP.all
 obtain ⟨e0, e1, e2, e3, e4, e5, e6⟩ := hE.all
 simp only at p0 p1 p2 p3 p4 p5 p6 e0 e1 e2 e3 e4 e5 e6
 have z1 := str_toList vs
 have z2 := str_toList zms
 have z3 := str_toList zxs
 clear hP hE hX1 hXW ho hs h1 h2 hk
 unfold pvv zv
 simp only [sv]
 go_enter Try.func72, Try.ntmps72
 obtain ⟨A, hA⟩ : ∃ A, (zu == zr) = A := ⟨_, rfl⟩
 obtain ⟨N, hN⟩ : ∃ N, (zu == 0) = N := ⟨_, rfl⟩
 have HO2 : Hid (Pu.znB vk vn vs zk zmn zmx zms zxs A N = o) := (by rw [← HO.out, ← hA, ← hN]; exact (Pu.zn_form _ _ _ _ _ _ _ _ _ _).symm : Pu.znB vk vn vs zk zmn zmx zms zxs A N = o)
 clear HO
 obtain ⟨b1, hb1⟩ : ∃ b, (zk != 1) = b := ⟨_, rfl⟩
 obtain ⟨b2, hb2⟩ : ∃ b, (zk != 2) = b := ⟨_, rfl⟩
 obtain ⟨I, hI⟩ : ∃ b, (b1 || A) = b := ⟨_, rfl⟩
 obtain ⟨J, hJ⟩ : ∃ b, (b2 || A) = b := ⟨_, rfl⟩
 have HI : Hid ((b1 || A) = I) := hI
 have HJ : Hid ((b2 || A) = J) := hJ
 have HO3 : Hid (vk ≠ 9 → (if ((if vk = 4 ∨ vk = 5 then I else J) || Pu.nev vk vn vs ⟨zk, 0, 0, zmn, zmx, zms, zxs⟩) = true then 1 else if (N && Pu.alw vk vn vs ⟨zk, 0, 0, zmn, zmx, zms, zxs⟩) = true then 3 else 2) = o) := (by
  intro h9
  rw [← HO2.out, ← Pu.znB_two _ _ _ _ _ _ _ _ _ _ h9, hb1, hb2, hI, hJ] : vk ≠ 9 → _)
 have HO9 : Hid (vk = 9 → (if (N && !A) = true then 1 else if A = true then 3 else 2) = o) := (by
  intro h9
  rw [← HO2.out, h9]
  unfold Pu.znB
  rw [if_pos rfl]
  cases A <;> cases N <;> rfl : vk = 9 → (if (N && !A) = true then 1 else if A = true then 3 else 2) = o)
 clear hI hJ HO2
 go_wp2_with fail
 go_quiet (fail)
 clear p0 p1 p2 p3 p4 p5 p6 e0 e1 e2 e3 e4 e5 e6 hA hN
 obtain ⟨W9, hW9⟩ : ∃ W9, W9 = W.drewN nq := ⟨_, rfl⟩
 have hxx : Ex W W9 := by rw [hW9]; exact Ex.drewN _ _
 have HXW9 : Hid (Ex w W9) := (HXW.out.trans hxx : Ex w W9)
 obtain ⟨p0, p1, p2, p3, p4, p5, p6⟩ := (HP.out.below hxx).all
 obtain ⟨e0, e1, e2, e3, e4, e5, e6⟩ := (HE.out.below hxx).all
 simp only at p0 p1 p2 p3 p4 p5 p6 e0 e1 e2 e3 e4 e5 e6
 rw [← hW9]
 clear hxx hW9
 go_upto_region 2 with fail
 go_cut [7, 8] (fun a b wc => a = .bool I ∧ b = .bool J ∧ wc = W9)
 case first =>
  cases b1 <;> cases b2 <;> (go_wp2_with fail; go_meet; exact ⟨by rw [← HI.out]; rfl, by rw [← HJ.out]; rfl, rfl⟩)
 case rest =>
 obtain ⟨rfl, rfl, hwc⟩ := hcut
 replace hwc := hwc.symm
 subst hwc
 obtain ⟨nv, hnv⟩ : ∃ b : Bool, (if vk = 9 then (N && !A) else ((if vk = 4 ∨ vk = 5 then I else J) || Pu.nev vk vn vs ⟨zk, 0, 0, zmn, zmx, zms, zxs⟩)) = b := ⟨_, rfl⟩
 obtain ⟨al, hal⟩ : ∃ b : Bool, (if vk = 9 then A else (N && Pu.alw vk vn vs ⟨zk, 0, 0, zmn, zmx, zms, zxs⟩)) = b := ⟨_, rfl⟩
 have HNV : Hid ((if vk = 9 then (N && !A) else ((if vk = 4 ∨ vk = 5 then I else J) || Pu.nev vk vn vs ⟨zk, 0, 0, zmn, zmx, zms, zxs⟩)) = nv) := hnv
 have HAL : Hid ((if vk = 9 then A else (N && Pu.alw vk vn vs ⟨zk, 0, 0, zmn, zmx, zms, zxs⟩)) = al) := hal
 have HO4 : Hid ((if nv = true then 1 else if al = true then 3 else 2) = o) := (by
  by_cases h9 : vk = 9
  ·rw [if_pos h9] at hnv hal
   rw [← hnv, ← hal]; exact HO9.out h9
  ·rw [if_neg h9] at hnv hal
   rw [← hnv, ← hal]; exact HO3.out h9 : (if nv = true then 1 else if al = true then 3 else 2) = o)
 clear hnv hal HO3 HO9 HI HJ hb1 hb2
 go_upto_block 0 with fail
 go_cut [9, 10] (fun a b wc => a = .bool nv ∧ b = .bool al ∧ wc = W9)
 case first =>
  have h := HKK.out
  subst h
  have HNV5 : Hid ((I || (decide (vn < zmn) || decide (zmx < vn))) = nv) := HNV.out
  have HAL5 : Hid ((N && (decide (zmn = vn) && decide (zmx = vn))) = al) := HAL.out
  cases I with
  | true =>
   cases N with
   | false =>
    go_wp2_with fail
    go_meet
    exact ⟨by rw [← HNV5.out]; rfl, by rw [← HAL5.out]; rfl, rfl⟩
   | true =>
    by_cases n3 : zmn = vn
    ·subst n3
     go_wp2_with fail
     go_meet
     exact ⟨by rw [← HNV5.out]; rfl, by rw [← HAL5.out]; simp [beqI5], rfl⟩
    ·have t3 : (zmn == vn) = false := beq_eq_false_iff_ne.2 n3
     go_wp2_with fail
     go_meet
     exact ⟨by rw [← HNV5.out]; rfl, by rw [← HAL5.out]; simp [n3], rfl⟩
  | false =>
   obtain ⟨x, hx⟩ : ∃ x, decide (vn < zmn) = x := ⟨_, rfl⟩
   have HX5 : Hid (decide (vn < zmn) = x) := hx
   clear hx
   cases x with
   | true =>
    have t1 : decide (vn < zmn) = true := HX5.out
    have n3 : zmn ≠ vn := by have := of_decide_eq_true t1; omega
    have t3 : (zmn == vn) = false := beq_eq_false_iff_ne.2 n3
    cases N <;> (go_wp2_with fail; go_meet; exact ⟨by rw [← HNV5.out, HX5.out]; rfl, by rw [← HAL5.out]; simp [n3], rfl⟩)
   | false =>
    have t1 : decide (vn < zmn) = false := HX5.out
    cases N with
    | false =>
     go_wp2_with fail
     go_meet
     exact ⟨by rw [← HNV5.out, HX5.out]; rfl, by rw [← HAL5.out]; rfl, rfl⟩
    | true =>
     by_cases n3 : zmn = vn
     ·subst n3
      go_wp2_with fail
      go_meet
      exact ⟨by rw [← HNV5.out]; simp, by rw [← HAL5.out]; simp [beqI5], rfl⟩
     ·have t3 : (zmn == vn) = false := beq_eq_false_iff_ne.2 n3
      go_wp2_with fail
      go_meet
      exact ⟨by rw [← HNV5.out, HX5.out]; rfl, by rw [← HAL5.out]; simp [n3], rfl⟩
 case rest =>
  obtain ⟨rfl, rfl, hwc⟩ := hcut
  replace hwc := hwc.symm
  subst hwc
  go_wp2_with fail
  go_at_call 70
  refine (pver_is nv al W9 o HO4.out).mono ?_
  rintro e w3 ⟨rfl, hw3⟩
  replace hw3 := hw3.symm
  subst hw3
  go_wp2_with fail
  go_ret
  exact ⟨rfl, HXW9.out⟩
set_option maxHeartbeats 8000000 in
set_option maxRecDepth 100000 in
theorem pjz6_is (v : PV) (z : Zn) (w : World) (hs : v.s.length ≤ maxLen) (h1 : z.ms.length ≤ maxLen) (h2 : z.xs.length ≤ maxLen) (hk : v.k = 6) (o : Nat) (ho : Pu.zn v.k v.n v.s z = o) :
  Calls Try.prog 72 #[pvv v, zv z] w fun e w' => e = .returned (.int .i64 (o : Int)) ∧ Ex w w' := by
 obtain ⟨vk, vcol, vn, vm, vs, ⟨sa, sn, sc⟩, vkids⟩ := v
 obtain ⟨zk, zr, zu, zmn, zmx, zms, zxs⟩ := z
 simp only at hs h1 h2 ho hk
 have HO : Hid (Pu.zn vk vn vs ⟨zk, zr, zu, zmn, zmx, zms, zxs⟩ = o) := ho
 have HL : Hid (vs.length ≤ maxLen ∧ zms.length ≤ maxLen ∧ zxs.length ≤ maxLen) := (⟨hs, h1, h2⟩ : vs.length ≤ maxLen ∧ zms.length ≤ maxLen ∧ zxs.length ≤ maxLen)
 have HKK : Hid (vk = 6) := hk
 obtain ⟨W, hW⟩ : ∃ W, (w.alloc (pb ⟨vk, vcol, vn, vm, vs, (sa, sn, sc), vkids⟩)).alloc (zb ⟨zk, zr, zu, zmn, zmx, zms, zxs⟩ 25) = W := ⟨_, rfl⟩
 have hX1 : Ex w (w.alloc (pb ⟨vk, vcol, vn, vm, vs, (sa, sn, sc), vkids⟩)) := (Below.refl _ _).alloc (Nat.le_refl _) _
 have hXW : Ex w W := by rw [← hW]; exact Below.alloc hX1 (by simp) _
 have HXW : Hid (Ex w W) := hXW
 have hP : PAt W w.heap.size ⟨vk, vcol, vn, vm, vs, (sa, sn, sc), vkids⟩ := by rw [← hW]; exact (PAt.new w _).alloc _
 have hE : ZAt W (w.heap.size + 1) ⟨zk, zr, zu, zmn, zmx, zms, zxs⟩ 25 := by
  have h := ZAt.new (w.alloc (pb ⟨vk, vcol, vn, vm, vs, (sa, sn, sc), vkids⟩)) ⟨zk, zr, zu, zmn, zmx, zms, zxs⟩ 25
  have hs' : (w.alloc (pb ⟨vk, vcol, vn, vm, vs, (sa, sn, sc), vkids⟩)).heap.size = w.heap.size + 1 := by simp
  rw [hs'] at h
  rw [← hW]; exact h
 have HP : Hid (PAt W w.heap.size ⟨vk, vcol, vn, vm, vs, (sa, sn, sc), vkids⟩) := hP
 have HE : Hid (ZAt W (w.heap.size + 1) ⟨zk, zr, zu, zmn, zmx, zms, zxs⟩ 25) := hE
 obtain ⟨p0, p1, p2, p3, p4, p5, p6⟩ := hP.all
 obtain ⟨e0, e1, e2, e3, e4, e5, e6⟩ := hE.all
 simp only at p0 p1 p2 p3 p4 p5 p6 e0 e1 e2 e3 e4 e5 e6
 have z1 := str_toList vs
 have z2 := str_toList zms
 have z3 := str_toList zxs
 clear hP hE hX1 hXW ho hs h1 h2 hk
 unfold pvv zv
 simp only [sv]
 go_enter Try.func72, Try.ntmps72
 obtain ⟨A, hA⟩ : ∃ A, (zu == zr) = A := ⟨_, rfl⟩
 obtain ⟨N, hN⟩ : ∃ N, (zu == 0) = N := ⟨_, rfl⟩
 have HO2 : Hid (Pu.znB vk vn vs zk zmn zmx zms zxs A N = o) := (by rw [← HO.out, ← hA, ← hN]; exact (Pu.zn_form _ _ _ _ _ _ _ _ _ _).symm : Pu.znB vk vn vs zk zmn zmx zms zxs A N = o)
 clear HO
 obtain ⟨b1, hb1⟩ : ∃ b, (zk != 1) = b := ⟨_, rfl⟩
 obtain ⟨b2, hb2⟩ : ∃ b, (zk != 2) = b := ⟨_, rfl⟩
 obtain ⟨I, hI⟩ : ∃ b, (b1 || A) = b := ⟨_, rfl⟩
 obtain ⟨J, hJ⟩ : ∃ b, (b2 || A) = b := ⟨_, rfl⟩
 have HI : Hid ((b1 || A) = I) := hI
 have HJ : Hid ((b2 || A) = J) := hJ
 have HO3 : Hid (vk ≠ 9 → (if ((if vk = 4 ∨ vk = 5 then I else J) || Pu.nev vk vn vs ⟨zk, 0, 0, zmn, zmx, zms, zxs⟩) = true then 1 else if (N && Pu.alw vk vn vs ⟨zk, 0, 0, zmn, zmx, zms, zxs⟩) = true then 3 else 2) = o) := (by
  intro h9
  rw [← HO2.out, ← Pu.znB_two _ _ _ _ _ _ _ _ _ _ h9, hb1, hb2, hI, hJ] : vk ≠ 9 → _)
 have HO9 : Hid (vk = 9 → (if (N && !A) = true then 1 else if A = true then 3 else 2) = o) := (by
  intro h9
  rw [← HO2.out, h9]
  unfold Pu.znB
  rw [if_pos rfl]
  cases A <;> cases N <;> rfl : vk = 9 → (if (N && !A) = true then 1 else if A = true then 3 else 2) = o)
 clear hI hJ HO2
 go_wp2_with fail
 go_quiet (fail)
 clear p0 p1 p2 p3 p4 p5 p6 e0 e1 e2 e3 e4 e5 e6 hA hN
 obtain ⟨W9, hW9⟩ : ∃ W9, W9 = W.drewN nq := ⟨_, rfl⟩
 have hxx : Ex W W9 := by rw [hW9]; exact Ex.drewN _ _
 have HXW9 : Hid (Ex w W9) := (HXW.out.trans hxx : Ex w W9)
 obtain ⟨p0, p1, p2, p3, p4, p5, p6⟩ := (HP.out.below hxx).all
 obtain ⟨e0, e1, e2, e3, e4, e5, e6⟩ := (HE.out.below hxx).all
 simp only at p0 p1 p2 p3 p4 p5 p6 e0 e1 e2 e3 e4 e5 e6
 rw [← hW9]
 clear hxx hW9
 go_upto_region 2 with fail
 go_cut [7, 8] (fun a b wc => a = .bool I ∧ b = .bool J ∧ wc = W9)
 case first =>
  cases b1 <;> cases b2 <;> (go_wp2_with fail; go_meet; exact ⟨by rw [← HI.out]; rfl, by rw [← HJ.out]; rfl, rfl⟩)
 case rest =>
 obtain ⟨rfl, rfl, hwc⟩ := hcut
 replace hwc := hwc.symm
 subst hwc
 obtain ⟨nv, hnv⟩ : ∃ b : Bool, (if vk = 9 then (N && !A) else ((if vk = 4 ∨ vk = 5 then I else J) || Pu.nev vk vn vs ⟨zk, 0, 0, zmn, zmx, zms, zxs⟩)) = b := ⟨_, rfl⟩
 obtain ⟨al, hal⟩ : ∃ b : Bool, (if vk = 9 then A else (N && Pu.alw vk vn vs ⟨zk, 0, 0, zmn, zmx, zms, zxs⟩)) = b := ⟨_, rfl⟩
 have HNV : Hid ((if vk = 9 then (N && !A) else ((if vk = 4 ∨ vk = 5 then I else J) || Pu.nev vk vn vs ⟨zk, 0, 0, zmn, zmx, zms, zxs⟩)) = nv) := hnv
 have HAL : Hid ((if vk = 9 then A else (N && Pu.alw vk vn vs ⟨zk, 0, 0, zmn, zmx, zms, zxs⟩)) = al) := hal
 have HO4 : Hid ((if nv = true then 1 else if al = true then 3 else 2) = o) := (by
  by_cases h9 : vk = 9
  ·rw [if_pos h9] at hnv hal
   rw [← hnv, ← hal]; exact HO9.out h9
  ·rw [if_neg h9] at hnv hal
   rw [← hnv, ← hal]; exact HO3.out h9 : (if nv = true then 1 else if al = true then 3 else 2) = o)
 clear hnv hal HO3 HO9 HI HJ hb1 hb2
 go_upto_block 0 with fail
 go_cut [9, 10] (fun a b wc => a = .bool nv ∧ b = .bool al ∧ wc = W9)
 case first =>
  have h := HKK.out
  subst h
  have HNV5 : Hid ((J || (T.lt vs zms || T.lt zxs vs)) = nv) := HNV.out
  have HAL5 : Hid ((N && (decide (zms = vs) && decide (zxs = vs))) = al) := HAL.out
  obtain ⟨x, hx⟩ : ∃ x, Op.bytesLess vs zms = x := ⟨_, rfl⟩
  have HX5 : Hid (T.lt vs zms = x) := hx
  cases J with
  | true =>
   cases N with
   | false =>
    go_wp2_with fail
    go_meet
    exact ⟨by rw [← HNV5.out]; rfl, by rw [← HAL5.out]; rfl, rfl⟩
   | true =>
    by_cases n3 : zms = vs
    ·have t3 : (zms == vs) = true := by simp [n3]
     have N3 : Hid (zms = vs) := n3
     clear n3
     go_wp2_with fail
     go_meet
     exact ⟨by rw [← HNV5.out]; rfl, by rw [← HAL5.out]; simp [N3.out, beqL5], rfl⟩
    ·have t3 : (zms == vs) = false := beq_eq_false_iff_ne.2 n3
     go_wp2_with fail
     go_meet
     exact ⟨by rw [← HNV5.out]; rfl, by rw [← HAL5.out]; simp [n3], rfl⟩
  | false =>
   cases x with
   | true =>
    cases N with
    | false =>
     go_wp2_with fail
     go_meet
     exact ⟨by rw [← HNV5.out, HX5.out]; rfl, by rw [← HAL5.out]; rfl, rfl⟩
    | true =>
     by_cases n3 : zms = vs
     ·have t3 : (zms == vs) = true := by simp [n3]
      have N3 : Hid (zms = vs) := n3
      clear n3
      go_wp2_with fail
      go_meet
      exact ⟨by rw [← HNV5.out, HX5.out]; rfl, by rw [← HAL5.out]; simp [N3.out, beqL5], rfl⟩
     ·have t3 : (zms == vs) = false := beq_eq_false_iff_ne.2 n3
      go_wp2_with fail
      go_meet
      exact ⟨by rw [← HNV5.out, HX5.out]; rfl, by rw [← HAL5.out]; simp [n3], rfl⟩
   | false =>
    cases N with
    | false =>
     go_wp2_with fail
     go_meet
     exact ⟨by rw [← HNV5.out, HX5.out, ← gt_form]; rfl, by rw [← HAL5.out]; rfl, rfl⟩
    | true =>
     by_cases n3 : zms = vs
     ·have t3 : (zms == vs) = true := by simp [n3]
      have N3 : Hid (zms = vs) := n3
      clear n3
      go_wp2_with fail
      go_meet
      exact ⟨by rw [← HNV5.out, HX5.out, ← gt_form]; rfl, by rw [← HAL5.out]; simp [N3.out, beqL5], rfl⟩
     ·have t3 : (zms == vs) = false := beq_eq_false_iff_ne.2 n3
      go_wp2_with fail
      go_meet
      exact ⟨by rw [← HNV5.out, HX5.out, ← gt_form]; rfl, by rw [← HAL5.out]; simp [n3], rfl⟩
 case rest =>
  obtain ⟨rfl, rfl, hwc⟩ := hcut
  replace hwc := hwc.symm
  subst hwc
  go_wp2_with fail
  go_at_call 70
  refine (pver_is nv al W9 o HO4.out).mono ?_
  rintro e w3 ⟨rfl, hw3⟩
  replace hw3 := hw3.symm
  subst hw3
  go_wp2_with fail
  go_ret
  exact ⟨rfl, HXW9.out⟩
set_option maxHeartbeats 8000000 in
set_option maxRecDepth 100000 in
theorem pjz8_is (v : PV) (z : Zn) (w : World) (hs : v.s.length ≤ maxLen) (h1 : z.ms.length ≤ maxLen) (h2 : z.xs.length ≤ maxLen) (hk : v.k = 8) (o : Nat) (ho : Pu.zn v.k v.n v.s z = o) :
  Calls Try.prog 72 #[pvv v, zv z] w fun e w' => e = .returned (.int .i64 (o : Int)) ∧ Ex w w' := by
 obtain ⟨vk, vcol, vn, vm, vs, ⟨sa, sn, sc⟩, vkids⟩ := v
 obtain ⟨zk, zr, zu, zmn, zmx, zms, zxs⟩ := z
 simp only at hs h1 h2 ho hk
 have HO : Hid (Pu.zn vk vn vs ⟨zk, zr, zu, zmn, zmx, zms, zxs⟩ = o) := ho
 have HL : Hid (vs.length ≤ maxLen ∧ zms.length ≤ maxLen ∧ zxs.length ≤ maxLen) := (⟨hs, h1, h2⟩ : vs.length ≤ maxLen ∧ zms.length ≤ maxLen ∧ zxs.length ≤ maxLen)
 have HKK : Hid (vk = 8) := hk
 obtain ⟨W, hW⟩ : ∃ W, (w.alloc (pb ⟨vk, vcol, vn, vm, vs, (sa, sn, sc), vkids⟩)).alloc (zb ⟨zk, zr, zu, zmn, zmx, zms, zxs⟩ 25) = W := ⟨_, rfl⟩
 have hX1 : Ex w (w.alloc (pb ⟨vk, vcol, vn, vm, vs, (sa, sn, sc), vkids⟩)) := (Below.refl _ _).alloc (Nat.le_refl _) _
 have hXW : Ex w W := by rw [← hW]; exact Below.alloc hX1 (by simp) _
 have HXW : Hid (Ex w W) := hXW
 have hP : PAt W w.heap.size ⟨vk, vcol, vn, vm, vs, (sa, sn, sc), vkids⟩ := by rw [← hW]; exact (PAt.new w _).alloc _
 have hE : ZAt W (w.heap.size + 1) ⟨zk, zr, zu, zmn, zmx, zms, zxs⟩ 25 := by
  have h := ZAt.new (w.alloc (pb ⟨vk, vcol, vn, vm, vs, (sa, sn, sc), vkids⟩)) ⟨zk, zr, zu, zmn, zmx, zms, zxs⟩ 25
  have hs' : (w.alloc (pb ⟨vk, vcol, vn, vm, vs, (sa, sn, sc), vkids⟩)).heap.size = w.heap.size + 1 := by simp
  rw [hs'] at h
  rw [← hW]; exact h
 have HP : Hid (PAt W w.heap.size ⟨vk, vcol, vn, vm, vs, (sa, sn, sc), vkids⟩) := hP
 have HE : Hid (ZAt W (w.heap.size + 1) ⟨zk, zr, zu, zmn, zmx, zms, zxs⟩ 25) := hE
 obtain ⟨p0, p1, p2, p3, p4, p5, p6⟩ := hP.all
 obtain ⟨e0, e1, e2, e3, e4, e5, e6⟩ := hE.all
 simp only at p0 p1 p2 p3 p4 p5 p6 e0 e1 e2 e3 e4 e5 e6
 have z1 := str_toList vs
 have z2 := str_toList zms
 have z3 := str_toList zxs
 clear hP hE hX1 hXW ho hs h1 h2 hk
 unfold pvv zv
 simp only [sv]
 go_enter Try.func72, Try.ntmps72
 obtain ⟨A, hA⟩ : ∃ A, (zu == zr) = A := ⟨_, rfl⟩
 obtain ⟨N, hN⟩ : ∃ N, (zu == 0) = N := ⟨_, rfl⟩
 have HO2 : Hid (Pu.znB vk vn vs zk zmn zmx zms zxs A N = o) := (by rw [← HO.out, ← hA, ← hN]; exact (Pu.zn_form _ _ _ _ _ _ _ _ _ _).symm : Pu.znB vk vn vs zk zmn zmx zms zxs A N = o)
 clear HO
 obtain ⟨b1, hb1⟩ : ∃ b, (zk != 1) = b := ⟨_, rfl⟩
 obtain ⟨b2, hb2⟩ : ∃ b, (zk != 2) = b := ⟨_, rfl⟩
 obtain ⟨I, hI⟩ : ∃ b, (b1 || A) = b := ⟨_, rfl⟩
 obtain ⟨J, hJ⟩ : ∃ b, (b2 || A) = b := ⟨_, rfl⟩
 have HI : Hid ((b1 || A) = I) := hI
 have HJ : Hid ((b2 || A) = J) := hJ
 have HO3 : Hid (vk ≠ 9 → (if ((if vk = 4 ∨ vk = 5 then I else J) || Pu.nev vk vn vs ⟨zk, 0, 0, zmn, zmx, zms, zxs⟩) = true then 1 else if (N && Pu.alw vk vn vs ⟨zk, 0, 0, zmn, zmx, zms, zxs⟩) = true then 3 else 2) = o) := (by
  intro h9
  rw [← HO2.out, ← Pu.znB_two _ _ _ _ _ _ _ _ _ _ h9, hb1, hb2, hI, hJ] : vk ≠ 9 → _)
 have HO9 : Hid (vk = 9 → (if (N && !A) = true then 1 else if A = true then 3 else 2) = o) := (by
  intro h9
  rw [← HO2.out, h9]
  unfold Pu.znB
  rw [if_pos rfl]
  cases A <;> cases N <;> rfl : vk = 9 → (if (N && !A) = true then 1 else if A = true then 3 else 2) = o)
 clear hI hJ HO2
 go_wp2_with fail
 go_quiet (fail)
 clear p0 p1 p2 p3 p4 p5 p6 e0 e1 e2 e3 e4 e5 e6 hA hN
 obtain ⟨W9, hW9⟩ : ∃ W9, W9 = W.drewN nq := ⟨_, rfl⟩
 have hxx : Ex W W9 := by rw [hW9]; exact Ex.drewN _ _
 have HXW9 : Hid (Ex w W9) := (HXW.out.trans hxx : Ex w W9)
 obtain ⟨p0, p1, p2, p3, p4, p5, p6⟩ := (HP.out.below hxx).all
 obtain ⟨e0, e1, e2, e3, e4, e5, e6⟩ := (HE.out.below hxx).all
 simp only at p0 p1 p2 p3 p4 p5 p6 e0 e1 e2 e3 e4 e5 e6
 rw [← hW9]
 clear hxx hW9
 go_upto_region 2 with fail
 go_cut [7, 8] (fun a b wc => a = .bool I ∧ b = .bool J ∧ wc = W9)
 case first =>
  cases b1 <;> cases b2 <;> (go_wp2_with fail; go_meet; exact ⟨by rw [← HI.out]; rfl, by rw [← HJ.out]; rfl, rfl⟩)
 case rest =>
 obtain ⟨rfl, rfl, hwc⟩ := hcut
 replace hwc := hwc.symm
 subst hwc
 obtain ⟨nv, hnv⟩ : ∃ b : Bool, (if vk = 9 then (N && !A) else ((if vk = 4 ∨ vk = 5 then I else J) || Pu.nev vk vn vs ⟨zk, 0, 0, zmn, zmx, zms, zxs⟩)) = b := ⟨_, rfl⟩
 obtain ⟨al, hal⟩ : ∃ b : Bool, (if vk = 9 then A else (N && Pu.alw vk vn vs ⟨zk, 0, 0, zmn, zmx, zms, zxs⟩)) = b := ⟨_, rfl⟩
 have HNV : Hid ((if vk = 9 then (N && !A) else ((if vk = 4 ∨ vk = 5 then I else J) || Pu.nev vk vn vs ⟨zk, 0, 0, zmn, zmx, zms, zxs⟩)) = nv) := hnv
 have HAL : Hid ((if vk = 9 then A else (N && Pu.alw vk vn vs ⟨zk, 0, 0, zmn, zmx, zms, zxs⟩)) = al) := hal
 have HO4 : Hid ((if nv = true then 1 else if al = true then 3 else 2) = o) := (by
  by_cases h9 : vk = 9
  ·rw [if_pos h9] at hnv hal
   rw [← hnv, ← hal]; exact HO9.out h9
  ·rw [if_neg h9] at hnv hal
   rw [← hnv, ← hal]; exact HO3.out h9 : (if nv = true then 1 else if al = true then 3 else 2) = o)
 clear hnv hal HO3 HO9 HI HJ hb1 hb2
 go_upto_block 0 with fail
 go_cut [9, 10] (fun a b wc => a = .bool nv ∧ b = .bool al ∧ wc = W9)
 case first =>
  have h := HKK.out
  subst h
  obtain ⟨x, hx⟩ : ∃ x, Op.bytesLess zxs vs = x := ⟨_, rfl⟩
  obtain ⟨y, hy⟩ : ∃ y, (!Op.bytesLess zms vs && !zms == vs) = y := ⟨_, rfl⟩
  obtain ⟨c1, hc1⟩ : ∃ b, T.begins vs zms = b := ⟨_, rfl⟩
  obtain ⟨c2, hc2⟩ : ∃ b, T.begins vs zxs = b := ⟨_, rfl⟩
  have HNV5 : Hid ((J || (x || (y && !c1))) = nv) := (by rw [← HNV.out, ← hx, ← hy, ← hc1, gt_form]; rfl : (J || (x || (y && !c1))) = nv)
  have HAL5 : Hid ((N && (c1 && c2)) = al) := (by rw [← HAL.out, ← hc1, ← hc2]; rfl : (N && (c1 && c2)) = al)
  have HB1 : Hid (T.begins vs zms = c1) := hc1
  have HB2 : Hid (T.begins vs zxs = c2) := hc2
  clear hc1 hc2
  cases J with
  | true =>
   cases N with
   | false =>
    go_wp2_with fail
    go_meet
    exact ⟨by rw [← HNV5.out]; rfl, by rw [← HAL5.out]; rfl, rfl⟩
   | true =>
    cases c1 with
    | false =>
     go_wp2_with fail
     go_at_call 88
     refine (hasPrefix_is zms vs W9 HL.out.2.1 HL.out.1 false HB1.out).mono ?_
     rintro e w3 ⟨rfl, hw3⟩
     replace hw3 := hw3.symm
     subst hw3
     go_wp2_with fail
     go_meet
     exact ⟨by rw [← HNV5.out]; rfl, by rw [← HAL5.out]; rfl, rfl⟩
    | true =>
     go_wp2_with fail
     go_at_call 88
     refine (hasPrefix_is zms vs W9 HL.out.2.1 HL.out.1 true HB1.out).mono ?_
     rintro e w3 ⟨rfl, hw3⟩
     replace hw3 := hw3.symm
     subst hw3
     go_wp2_with fail
     go_at_call 88
     refine (hasPrefix_is zxs vs W9 HL.out.2.2 HL.out.1 c2 HB2.out).mono ?_
     rintro e w3 ⟨rfl, hw3⟩
     replace hw3 := hw3.symm
     subst hw3
     go_wp2_with fail
     go_meet
     exact ⟨by rw [← HNV5.out]; rfl, by rw [← HAL5.out]; rfl, rfl⟩
  | false =>
   cases x with
   | true =>
    cases N with
    | false =>
     go_wp2_with fail
     go_meet
     exact ⟨by rw [← HNV5.out]; rfl, by rw [← HAL5.out]; rfl, rfl⟩
    | true =>
     cases c1 with
     | false =>
      go_wp2_with fail
      go_at_call 88
      refine (hasPrefix_is zms vs W9 HL.out.2.1 HL.out.1 false HB1.out).mono ?_
      rintro e w3 ⟨rfl, hw3⟩
      replace hw3 := hw3.symm
      subst hw3
      go_wp2_with fail
      go_meet
      exact ⟨by rw [← HNV5.out]; rfl, by rw [← HAL5.out]; rfl, rfl⟩
     | true =>
      go_wp2_with fail
      go_at_call 88
      refine (hasPrefix_is zms vs W9 HL.out.2.1 HL.out.1 true HB1.out).mono ?_
      rintro e w3 ⟨rfl, hw3⟩
      replace hw3 := hw3.symm
      subst hw3
      go_wp2_with fail
      go_at_call 88
      refine (hasPrefix_is zxs vs W9 HL.out.2.2 HL.out.1 c2 HB2.out).mono ?_
      rintro e w3 ⟨rfl, hw3⟩
      replace hw3 := hw3.symm
      subst hw3
      go_wp2_with fail
      go_meet
      exact ⟨by rw [← HNV5.out]; rfl, by rw [← HAL5.out]; rfl, rfl⟩
   | false =>
    cases y with
    | false =>
     cases N with
     | false =>
      go_wp2_with fail
      go_meet
      exact ⟨by rw [← HNV5.out]; rfl, by rw [← HAL5.out]; rfl, rfl⟩
     | true =>
      cases c1 with
      | false =>
       go_wp2_with fail
       go_at_call 88
       refine (hasPrefix_is zms vs W9 HL.out.2.1 HL.out.1 false HB1.out).mono ?_
       rintro e w3 ⟨rfl, hw3⟩
       replace hw3 := hw3.symm
       subst hw3
       go_wp2_with fail
       go_meet
       exact ⟨by rw [← HNV5.out]; rfl, by rw [← HAL5.out]; rfl, rfl⟩
      | true =>
       go_wp2_with fail
       go_at_call 88
       refine (hasPrefix_is zms vs W9 HL.out.2.1 HL.out.1 true HB1.out).mono ?_
       rintro e w3 ⟨rfl, hw3⟩
       replace hw3 := hw3.symm
       subst hw3
       go_wp2_with fail
       go_at_call 88
       refine (hasPrefix_is zxs vs W9 HL.out.2.2 HL.out.1 c2 HB2.out).mono ?_
       rintro e w3 ⟨rfl, hw3⟩
       replace hw3 := hw3.symm
       subst hw3
       go_wp2_with fail
       go_meet
       exact ⟨by rw [← HNV5.out]; rfl, by rw [← HAL5.out]; rfl, rfl⟩
    | true =>
     cases N with
     | false =>
      go_wp2_with fail
      go_at_call 88
      refine (hasPrefix_is zms vs W9 HL.out.2.1 HL.out.1 c1 HB1.out).mono ?_
      rintro e w3 ⟨rfl, hw3⟩
      replace hw3 := hw3.symm
      subst hw3
      go_wp2_with fail
      go_meet
      exact ⟨by rw [← HNV5.out]; rfl, by rw [← HAL5.out]; rfl, rfl⟩
     | true =>
      cases c1 with
      | false =>
       go_wp2_with fail
       go_at_call 88
       refine (hasPrefix_is zms vs W9 HL.out.2.1 HL.out.1 false HB1.out).mono ?_
       rintro e w3 ⟨rfl, hw3⟩
       replace hw3 := hw3.symm
       subst hw3
       go_wp2_with fail
       go_at_call 88
       refine (hasPrefix_is zms vs W9 HL.out.2.1 HL.out.1 false HB1.out).mono ?_
       rintro e w3 ⟨rfl, hw3⟩
       replace hw3 := hw3.symm
       subst hw3
       go_wp2_with fail
       go_meet
       exact ⟨by rw [← HNV5.out]; rfl, by rw [← HAL5.out]; rfl, rfl⟩
      | true =>
       go_wp2_with fail
       go_at_call 88
       refine (hasPrefix_is zms vs W9 HL.out.2.1 HL.out.1 true HB1.out).mono ?_
       rintro e w3 ⟨rfl, hw3⟩
       replace hw3 := hw3.symm
       subst hw3
       go_wp2_with fail
       go_at_call 88
       refine (hasPrefix_is zms vs W9 HL.out.2.1 HL.out.1 true HB1.out).mono ?_
       rintro e w3 ⟨rfl, hw3⟩
       replace hw3 := hw3.symm
       subst hw3
       go_wp2_with fail
       go_at_call 88
       refine (hasPrefix_is zxs vs W9 HL.out.2.2 HL.out.1 c2 HB2.out).mono ?_
       rintro e w3 ⟨rfl, hw3⟩
       replace hw3 := hw3.symm
       subst hw3
       go_wp2_with fail
       go_meet
       exact ⟨by rw [← HNV5.out]; rfl, by rw [← HAL5.out]; rfl, rfl⟩
 case rest =>
  obtain ⟨rfl, rfl, hwc⟩ := hcut
  replace hwc := hwc.symm
  subst hwc
  go_wp2_with fail
  go_at_call 70
  refine (pver_is nv al W9 o HO4.out).mono ?_
  rintro e w3 ⟨rfl, hw3⟩
  replace hw3 := hw3.symm
  subst hw3
  go_wp2_with fail
  go_ret
  exact ⟨rfl, HXW9.out⟩
set_option maxHeartbeats 8000000 in
set_option maxRecDepth 100000 in
theorem pjz9_is (v : PV) (z : Zn) (w : World) (hs : v.s.length ≤ maxLen) (h1 : z.ms.length ≤ maxLen) (h2 : z.xs.length ≤ maxLen) (hk : v.k = 9) (o : Nat) (ho : Pu.zn v.k v.n v.s z = o) :
  Calls Try.prog 72 #[pvv v, zv z] w fun e w' => e = .returned (.int .i64 (o : Int)) ∧ Ex w w' := by
 obtain ⟨vk, vcol, vn, vm, vs, ⟨sa, sn, sc⟩, vkids⟩ := v
 obtain ⟨zk, zr, zu, zmn, zmx, zms, zxs⟩ := z
 simp only at hs h1 h2 ho hk
 have HO : Hid (Pu.zn vk vn vs ⟨zk, zr, zu, zmn, zmx, zms, zxs⟩ = o) := ho
 have HL : Hid (vs.length ≤ maxLen ∧ zms.length ≤ maxLen ∧ zxs.length ≤ maxLen) := (⟨hs, h1, h2⟩ : vs.length ≤ maxLen ∧ zms.length ≤ maxLen ∧ zxs.length ≤ maxLen)
 have HKK : Hid (vk = 9) := hk
 obtain ⟨W, hW⟩ : ∃ W, (w.alloc (pb ⟨vk, vcol, vn, vm, vs, (sa, sn, sc), vkids⟩)).alloc (zb ⟨zk, zr, zu, zmn, zmx, zms, zxs⟩ 25) = W := ⟨_, rfl⟩
 have hX1 : Ex w (w.alloc (pb ⟨vk, vcol, vn, vm, vs, (sa, sn, sc), vkids⟩)) := (Below.refl _ _).alloc (Nat.le_refl _) _
 have hXW : Ex w W := by rw [← hW]; exact Below.alloc hX1 (by simp) _
 have HXW : Hid (Ex w W) := hXW
 have hP : PAt W w.heap.size ⟨vk, vcol, vn, vm, vs, (sa, sn, sc), vkids⟩ := by rw [← hW]; exact (PAt.new w _).alloc _
 have hE : ZAt W (w.heap.size + 1) ⟨zk, zr, zu, zmn, zmx, zms, zxs⟩ 25 := by
  have h := ZAt.new (w.alloc (pb ⟨vk, vcol, vn, vm, vs, (sa, sn, sc), vkids⟩)) ⟨zk, zr, zu, zmn, zmx, zms, zxs⟩ 25
  have hs' : (w.alloc (pb ⟨vk, vcol, vn, vm, vs, (sa, sn, sc), vkids⟩)).heap.size = w.heap.size + 1 := by simp
  rw [hs'] at h
  rw [← hW]; exact h
 have HP : Hid (PAt W w.heap.size ⟨vk, vcol, vn, vm, vs, (sa, sn, sc), vkids⟩) := hP
 have HE : Hid (ZAt W (w.heap.size + 1) ⟨zk, zr, zu, zmn, zmx, zms, zxs⟩ 25) := hE
 obtain ⟨p0, p1, p2, p3, p4, p5, p6⟩ := hP.all
 obtain ⟨e0, e1, e2, e3, e4, e5, e6⟩ := hE.all
 simp only at p0 p1 p2 p3 p4 p5 p6 e0 e1 e2 e3 e4 e5 e6
 have z1 := str_toList vs
 have z2 := str_toList zms
 have z3 := str_toList zxs
 clear hP hE hX1 hXW ho hs h1 h2 hk
 unfold pvv zv
 simp only [sv]
 go_enter Try.func72, Try.ntmps72
 obtain ⟨A, hA⟩ : ∃ A, (zu == zr) = A := ⟨_, rfl⟩
 obtain ⟨N, hN⟩ : ∃ N, (zu == 0) = N := ⟨_, rfl⟩
 have HO2 : Hid (Pu.znB vk vn vs zk zmn zmx zms zxs A N = o) := (by rw [← HO.out, ← hA, ← hN]; exact (Pu.zn_form _ _ _ _ _ _ _ _ _ _).symm : Pu.znB vk vn vs zk zmn zmx zms zxs A N = o)
 clear HO
 obtain ⟨b1, hb1⟩ : ∃ b, (zk != 1) = b := ⟨_, rfl⟩
 obtain ⟨b2, hb2⟩ : ∃ b, (zk != 2) = b := ⟨_, rfl⟩
 obtain ⟨I, hI⟩ : ∃ b, (b1 || A) = b := ⟨_, rfl⟩
 obtain ⟨J, hJ⟩ : ∃ b, (b2 || A) = b := ⟨_, rfl⟩
 have HI : Hid ((b1 || A) = I) := hI
 have HJ : Hid ((b2 || A) = J) := hJ
 have HO3 : Hid (vk ≠ 9 → (if ((if vk = 4 ∨ vk = 5 then I else J) || Pu.nev vk vn vs ⟨zk, 0, 0, zmn, zmx, zms, zxs⟩) = true then 1 else if (N && Pu.alw vk vn vs ⟨zk, 0, 0, zmn, zmx, zms, zxs⟩) = true then 3 else 2) = o) := (by
  intro h9
  rw [← HO2.out, ← Pu.znB_two _ _ _ _ _ _ _ _ _ _ h9, hb1, hb2, hI, hJ] : vk ≠ 9 → _)
 have HO9 : Hid (vk = 9 → (if (N && !A) = true then 1 else if A = true then 3 else 2) = o) := (by
  intro h9
  rw [← HO2.out, h9]
  unfold Pu.znB
  rw [if_pos rfl]
  cases A <;> cases N <;> rfl : vk = 9 → (if (N && !A) = true then 1 else if A = true then 3 else 2) = o)
 clear hI hJ HO2
 go_wp2_with fail
 go_quiet (fail)
 clear p0 p1 p2 p3 p4 p5 p6 e0 e1 e2 e3 e4 e5 e6 hA hN
 obtain ⟨W9, hW9⟩ : ∃ W9, W9 = W.drewN nq := ⟨_, rfl⟩
 have hxx : Ex W W9 := by rw [hW9]; exact Ex.drewN _ _
 have HXW9 : Hid (Ex w W9) := (HXW.out.trans hxx : Ex w W9)
 obtain ⟨p0, p1, p2, p3, p4, p5, p6⟩ := (HP.out.below hxx).all
 obtain ⟨e0, e1, e2, e3, e4, e5, e6⟩ := (HE.out.below hxx).all
 simp only at p0 p1 p2 p3 p4 p5 p6 e0 e1 e2 e3 e4 e5 e6
 rw [← hW9]
 clear hxx hW9
 go_upto_region 2 with fail
 go_cut [7, 8] (fun a b wc => a = .bool I ∧ b = .bool J ∧ wc = W9)
 case first =>
  cases b1 <;> cases b2 <;> (go_wp2_with fail; go_meet; exact ⟨by rw [← HI.out]; rfl, by rw [← HJ.out]; rfl, rfl⟩)
 case rest =>
 obtain ⟨rfl, rfl, hwc⟩ := hcut
 replace hwc := hwc.symm
 subst hwc
 obtain ⟨nv, hnv⟩ : ∃ b : Bool, (if vk = 9 then (N && !A) else ((if vk = 4 ∨ vk = 5 then I else J) || Pu.nev vk vn vs ⟨zk, 0, 0, zmn, zmx, zms, zxs⟩)) = b := ⟨_, rfl⟩
 obtain ⟨al, hal⟩ : ∃ b : Bool, (if vk = 9 then A else (N && Pu.alw vk vn vs ⟨zk, 0, 0, zmn, zmx, zms, zxs⟩)) = b := ⟨_, rfl⟩
 have HNV : Hid ((if vk = 9 then (N && !A) else ((if vk = 4 ∨ vk = 5 then I else J) || Pu.nev vk vn vs ⟨zk, 0, 0, zmn, zmx, zms, zxs⟩)) = nv) := hnv
 have HAL : Hid ((if vk = 9 then A else (N && Pu.alw vk vn vs ⟨zk, 0, 0, zmn, zmx, zms, zxs⟩)) = al) := hal
 have HO4 : Hid ((if nv = true then 1 else if al = true then 3 else 2) = o) := (by
  by_cases h9 : vk = 9
  ·rw [if_pos h9] at hnv hal
   rw [← hnv, ← hal]; exact HO9.out h9
  ·rw [if_neg h9] at hnv hal
   rw [← hnv, ← hal]; exact HO3.out h9 : (if nv = true then 1 else if al = true then 3 else 2) = o)
 clear hnv hal HO3 HO9 HI HJ hb1 hb2
 go_upto_block 0 with fail
 go_cut [9, 10] (fun a b wc => a = .bool nv ∧ b = .bool al ∧ wc = W9)
 case first =>
  have h := HKK.out
  subst h
  cases A <;> cases N <;> (go_wp2_with fail; go_meet; exact ⟨by rw [← HNV.out]; rfl, by rw [← HAL.out]; rfl, rfl⟩)
 case rest =>
  obtain ⟨rfl, rfl, hwc⟩ := hcut
  replace hwc := hwc.symm
  subst hwc
  go_wp2_with fail
  go_at_call 70
  refine (pver_is nv al W9 o HO4.out).mono ?_
  rintro e w3 ⟨rfl, hw3⟩
  replace hw3 := hw3.symm
  subst hw3
  go_wp2_with fail
  go_ret
  exact ⟨rfl, HXW9.out⟩
theorem pjz_is (v : PV) (z : Zn) (w : World) (hs : v.s.length ≤ maxLen) (h1 : z.ms.length ≤ maxLen) (h2 : z.xs.length ≤ maxLen) (hk : v.k = 4 ∨ v.k = 5 ∨ v.k = 6 ∨ v.k = 8 ∨ v.k = 9) (o : Nat) (ho : Pu.zn v.k v.n v.s z = o) :
  Calls Try.prog 72 #[pvv v, zv z] w fun e w' => e = .returned (.int .i64 (o : Int)) ∧ Ex w w' := by
 rcases hk with hk | hk | hk | hk | hk
 ·exact pjz4_is v z w hs h1 h2 hk o ho
 ·exact pjz5_is v z w hs h1 h2 hk o ho
 ·exact pjz6_is v z w hs h1 h2 hk o ho
 ·exact pjz8_is v z w hs h1 h2 hk o ho
 ·exact pjz9_is v z w hs h1 h2 hk o ho
end Go.Proofs.Ytibnhjfeepdddaa
