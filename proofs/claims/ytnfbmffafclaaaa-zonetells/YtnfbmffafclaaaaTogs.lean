/-
  Of the landed zone: together.
-/
import Derived.Test.YtnfbmffafclaaaaHeads
import Derived.Test.YtnfbmffafclaaaaDuo
import Derived.Test.YtnfbmffafclaaaaZdec
namespace Go.Proofs.Ytnfbmffafclaaaa
open Go.RowKit
set_option linter.unusedVariables false
set_option linter.unusedSimpArgs false
theorem ZAt.newat (w : World) (g : Nat) (z : Zn) {t : TypeId} (hg : g = w.heap.size) : ZAt (w.alloc (zb z t)) g z t := by subst hg; exact ZAt.new w z t
set_option maxHeartbeats 4000000 in
set_option maxRecDepth 100000 in
theorem tog_is (a b : Zn) (w : World) (hr : In64 (a.r + b.r)) (hu : In64 (a.u + b.u)) (r : Zn) (ho : Z.tog a b = r) : Calls Try.prog 31 #[zv a, zv b] w fun e w' => e = .returned (zv r) ∧ Ex w w' := by
  have HO : Hid (Z.tog a b = r) := ho
  clear ho
  unfold In64 at hr hu
  obtain ⟨ha, hha⟩ : ∃ x, Z.has a = x := ⟨_, rfl⟩
  obtain ⟨hb, hhb⟩ : ∃ x, Z.has b = x := ⟨_, rfl⟩
  have HA : Hid (Z.has a = ha) := hha
  have HB : Hid (Z.has b = hb) := hhb
  clear hha hhb
  unfold zv
  go_enter Try.func31, Try.ntmps31
  go_wp2_with fail
  refine (least_is a _ ha HA.out).mono ?_
  rintro e w' ⟨rfl, rfl⟩
  cases ha with
  | true =>
    go_wp2_with fail
    refine (least_is b _ hb HB.out).mono ?_
    rintro e w' ⟨rfl, rfl⟩
    cases hb with
    | true =>
      obtain ⟨m1, hm1⟩ : ∃ x, (if b.mn < a.mn then b.mn else a.mn) = x := ⟨_, rfl⟩
      have M1 : Hid ((if b.mn < a.mn then b.mn else a.mn) = m1) := hm1
      clear hm1
      obtain ⟨m2, hm2⟩ : ∃ x, (if b.mx > a.mx then b.mx else a.mx) = x := ⟨_, rfl⟩
      have M2 : Hid ((if b.mx > a.mx then b.mx else a.mx) = m2) := hm2
      clear hm2
      obtain ⟨m3, hm3⟩ : ∃ x, (if T.lt b.ms a.ms = true then b.ms else a.ms) = x := ⟨_, rfl⟩
      have M3 : Hid ((if T.lt b.ms a.ms = true then b.ms else a.ms) = m3) := hm3
      clear hm3
      obtain ⟨m4, hm4⟩ : ∃ x, (if T.lt a.xs b.xs = true then b.xs else a.xs) = x := ⟨_, rfl⟩
      have M4 : Hid ((if T.lt a.xs b.xs = true then b.xs else a.xs) = m4) := hm4
      clear hm4
      go_upto_region 6 with fail
      refine Rg.Fr.wp_duo (wE := w) 52 (by kernel_rfl) 2 3 4 w.heap.size (w.heap.size + 1) (w.heap.size + 1 + 1 + 1) (w.heap.size + 1 + 1) a b Z.zero (fun p q => (⟨a.k, a.r + b.r, a.u + b.u, if p then m1 else 0, if q then m2 else 0, [], []⟩ : Zn)) (.int .i64 a.mn) (.int .i64 b.mn) (.int .i64 m1) (.int .i64 a.mx) (.int .i64 b.mx) (.int .i64 m2) 27 28 29 30 31 32 33 34 35 36 37 38 _ _ _ _ _ _ _ _ _ _ _ _ _ _ rfl rfl (by kernel_rfl) (by kernel_rfl) rfl rfl rfl rfl rfl rfl rfl rfl rfl rfl rfl rfl rfl rfl rfl rfl rfl rfl rfl rfl rfl rfl rfl rfl rfl rfl rfl rfl _ rfl rfl rfl rfl rfl rfl rfl rfl rfl rfl rfl rfl rfl rfl rfl rfl (by omega) (by omega) (Or.inl ⟨rfl, _, rfl⟩) (Or.inl ⟨rfl, _, rfl⟩) (Or.inl ⟨rfl, _, rfl⟩) (Or.inl ⟨rfl, _, rfl⟩) (Or.inl ⟨rfl, _, rfl⟩) (Or.inl ⟨rfl, _, rfl⟩) (fun w ts t => by rw [← M1.out]; exact Go.run_min_int2 w ts t _ _ _ _) (fun w ts t => by rw [← M2.out]; exact Go.run_max_int2 w ts t _ _ _ _) rfl rfl rfl rfl (fun q => by cases q <;> rfl) (fun q => by cases q <;> rfl) (by omega) (by omega) (by omega) (by omega) ((((((ZAt.new w a 23).alloc _).alloc _).alloc _).alloc _).alloc _) (((((ZAt.newat _ (w.heap.size + 1) b (by simp)).alloc _).alloc _).alloc _).alloc _) ((((ZAt.newat _ (w.heap.size + 1 + 1) Z.zero (by simp)).alloc _).alloc _).alloc _) (((ZAt.newat _ (w.heap.size + 1 + 1 + 1) ⟨a.k, a.r + b.r, a.u + b.u, 0, 0, [], []⟩ (by simp)).alloc _).alloc _) (by (repeat' (first | exact Below.refl _ _ | refine Below.drew ?_ | refine Below.alloc ?_ (by simp <;> omega) _))) ?fin
      case fin =>
        intro w9 
        simp only [Rg.later, Act.put, List.setIfInBounds_toArray, List.set_cons_succ, List.set_cons_zero]
        intro hx9 hy9 h49 hz9 hb9
        have HX : Hid (ZAt w9 w.heap.size a 23) := hx9
        have HY : Hid (ZAt w9 (w.heap.size + 1) b 23) := hy9
        have H4 : Hid (ZAt w9 (w.heap.size + 1 + 1) Z.zero 23) := h49
        have HZ : Hid (ZAt w9 (w.heap.size + 1 + 1 + 1) ⟨a.k, a.r + b.r, a.u + b.u, m1, m2, [], []⟩ 23) := hz9
        have HBl : Hid (Below w.heap.size w w9) := hb9
        clear hx9 hy9 h49 hz9 hb9
        go_wp2_with fail
        refine Rg.Fr.wp_duo (wE := w) 52 (by kernel_rfl) 9 5 6 w.heap.size (w.heap.size + 1) (w.heap.size + 1 + 1 + 1) (w.heap.size + 1 + 1) a b Z.zero (fun p q => (⟨a.k, a.r + b.r, a.u + b.u, m1, m2, if p then m3 else [], if q then m4 else []⟩ : Zn)) (.string (str a.ms)) (.string (str b.ms)) (.string (str m3)) (.string (str a.xs)) (.string (str b.xs)) (.string (str m4)) 39 40 41 42 43 44 45 46 47 48 49 50 _ _ _ _ _ _ _ _ _ _ _ _ _ _ rfl rfl (by kernel_rfl) (by kernel_rfl) rfl rfl rfl rfl rfl rfl rfl rfl rfl rfl rfl rfl rfl rfl rfl rfl rfl rfl rfl rfl rfl rfl rfl rfl rfl rfl rfl rfl _ rfl rfl rfl rfl rfl rfl rfl rfl rfl rfl rfl rfl rfl rfl rfl rfl (by omega) (by omega) (Or.inr ⟨rfl, _, rfl⟩) (Or.inr ⟨rfl, _, rfl⟩) (Or.inr ⟨rfl, _, rfl⟩) (Or.inr ⟨rfl, _, rfl⟩) (Or.inr ⟨rfl, _, rfl⟩) (Or.inr ⟨rfl, _, rfl⟩) (fun w ts t => by rw [← M3.out]; exact run_min_txt w ts t _ _) (fun w ts t => by rw [← M4.out]; exact run_max_txt w ts t _ _) rfl rfl rfl rfl (fun q => by cases q <;> rfl) (fun q => by cases q <;> rfl) (by omega) (by omega) (by omega) (by omega) HX.out HY.out H4.out HZ.out HBl.out ?fin2
        case fin2 =>
          intro w8 
          simp only [Rg.later, Act.put, List.setIfInBounds_toArray, List.set_cons_succ, List.set_cons_zero]
          intro hx9 hy9 h49 hz9 hb9
          have hz8 : ZAt w8 (w.heap.size + 1 + 1 + 1) r 23 := (by have ho := HO.out; simp only [Z.tog, Z.tx, Z.ty, Z.mix, HA.out, HB.out, if_true, Bool.false_eq_true, if_false] at ho; rw [M1.out, M2.out, M3.out, M4.out] at ho; rw [← ho]; exact hz9)
          have HZ8 : Hid (ZAt w8 (w.heap.size + 1 + 1 + 1) r 23) := hz8
          have H48 : Hid (ZAt w8 (w.heap.size + 1 + 1) Z.zero 23) := h49
          have HB8 : Hid (Below w.heap.size w w8) := hb9
          clear hx9 hy9 h49 hz9 hb9 hz8
          obtain ⟨i0, i1, i2, i3, i4, i5, i6⟩ := HZ8.out.all
          obtain ⟨j0, j1, j2, j3, j4, j5, j6⟩ := H48.out.all
          obtain ⟨k0, k1, k2, k3, k4, k5, k6⟩ := H48.out.fro
          go_wp2_with fail
          exact bodyPost_ret (res_zone (g := w.heap.size + 1 + 1) (z := r) rfl rfl (H48.out.store r)) rfl ⟨rfl, Below.zset HB8.out (by omega) r⟩
    | false =>
      obtain ⟨m1, hm1⟩ : ∃ x, (if a.mn < a.mn then a.mn else a.mn) = x := ⟨_, rfl⟩
      have M1 : Hid ((if a.mn < a.mn then a.mn else a.mn) = m1) := hm1
      clear hm1
      obtain ⟨m2, hm2⟩ : ∃ x, (if a.mx > a.mx then a.mx else a.mx) = x := ⟨_, rfl⟩
      have M2 : Hid ((if a.mx > a.mx then a.mx else a.mx) = m2) := hm2
      clear hm2
      obtain ⟨m3, hm3⟩ : ∃ x, (if T.lt a.ms a.ms = true then a.ms else a.ms) = x := ⟨_, rfl⟩
      have M3 : Hid ((if T.lt a.ms a.ms = true then a.ms else a.ms) = m3) := hm3
      clear hm3
      obtain ⟨m4, hm4⟩ : ∃ x, (if T.lt a.xs a.xs = true then a.xs else a.xs) = x := ⟨_, rfl⟩
      have M4 : Hid ((if T.lt a.xs a.xs = true then a.xs else a.xs) = m4) := hm4
      clear hm4
      go_upto_region 6 with fail
      refine Rg.Fr.wp_duo (wE := w) 52 (by kernel_rfl) 2 3 4 w.heap.size (w.heap.size + 1) (w.heap.size + 1 + 1 + 1) (w.heap.size + 1 + 1) a a Z.zero (fun p q => (⟨a.k, a.r + b.r, a.u + b.u, if p then m1 else 0, if q then m2 else 0, [], []⟩ : Zn)) (.int .i64 a.mn) (.int .i64 a.mn) (.int .i64 m1) (.int .i64 a.mx) (.int .i64 a.mx) (.int .i64 m2) 27 28 29 30 31 32 33 34 35 36 37 38 _ _ _ _ _ _ _ _ _ _ _ _ _ _ rfl rfl (by kernel_rfl) (by kernel_rfl) rfl rfl rfl rfl rfl rfl rfl rfl rfl rfl rfl rfl rfl rfl rfl rfl rfl rfl rfl rfl rfl rfl rfl rfl rfl rfl rfl rfl _ rfl rfl rfl rfl rfl rfl rfl rfl rfl rfl rfl rfl rfl rfl rfl rfl (by omega) (by omega) (Or.inl ⟨rfl, _, rfl⟩) (Or.inl ⟨rfl, _, rfl⟩) (Or.inl ⟨rfl, _, rfl⟩) (Or.inl ⟨rfl, _, rfl⟩) (Or.inl ⟨rfl, _, rfl⟩) (Or.inl ⟨rfl, _, rfl⟩) (fun w ts t => by rw [← M1.out]; exact Go.run_min_int2 w ts t _ _ _ _) (fun w ts t => by rw [← M2.out]; exact Go.run_max_int2 w ts t _ _ _ _) rfl rfl rfl rfl (fun q => by cases q <;> rfl) (fun q => by cases q <;> rfl) (by omega) (by omega) (by omega) (by omega) ((((((ZAt.new w a 23).alloc _).alloc _).alloc _).alloc _).alloc _) (((((ZAt.newat _ (w.heap.size + 1) a (by simp)).alloc _).alloc _).alloc _).alloc _) ((((ZAt.newat _ (w.heap.size + 1 + 1) Z.zero (by simp)).alloc _).alloc _).alloc _) (((ZAt.newat _ (w.heap.size + 1 + 1 + 1) ⟨a.k, a.r + b.r, a.u + b.u, 0, 0, [], []⟩ (by simp)).alloc _).alloc _) (by (repeat' (first | exact Below.refl _ _ | refine Below.drew ?_ | refine Below.alloc ?_ (by simp <;> omega) _))) ?fin
      case fin =>
        intro w9 
        simp only [Rg.later, Act.put, List.setIfInBounds_toArray, List.set_cons_succ, List.set_cons_zero]
        intro hx9 hy9 h49 hz9 hb9
        have HX : Hid (ZAt w9 w.heap.size a 23) := hx9
        have HY : Hid (ZAt w9 (w.heap.size + 1) a 23) := hy9
        have H4 : Hid (ZAt w9 (w.heap.size + 1 + 1) Z.zero 23) := h49
        have HZ : Hid (ZAt w9 (w.heap.size + 1 + 1 + 1) ⟨a.k, a.r + b.r, a.u + b.u, m1, m2, [], []⟩ 23) := hz9
        have HBl : Hid (Below w.heap.size w w9) := hb9
        clear hx9 hy9 h49 hz9 hb9
        go_wp2_with fail
        refine Rg.Fr.wp_duo (wE := w) 52 (by kernel_rfl) 9 5 6 w.heap.size (w.heap.size + 1) (w.heap.size + 1 + 1 + 1) (w.heap.size + 1 + 1) a a Z.zero (fun p q => (⟨a.k, a.r + b.r, a.u + b.u, m1, m2, if p then m3 else [], if q then m4 else []⟩ : Zn)) (.string (str a.ms)) (.string (str a.ms)) (.string (str m3)) (.string (str a.xs)) (.string (str a.xs)) (.string (str m4)) 39 40 41 42 43 44 45 46 47 48 49 50 _ _ _ _ _ _ _ _ _ _ _ _ _ _ rfl rfl (by kernel_rfl) (by kernel_rfl) rfl rfl rfl rfl rfl rfl rfl rfl rfl rfl rfl rfl rfl rfl rfl rfl rfl rfl rfl rfl rfl rfl rfl rfl rfl rfl rfl rfl _ rfl rfl rfl rfl rfl rfl rfl rfl rfl rfl rfl rfl rfl rfl rfl rfl (by omega) (by omega) (Or.inr ⟨rfl, _, rfl⟩) (Or.inr ⟨rfl, _, rfl⟩) (Or.inr ⟨rfl, _, rfl⟩) (Or.inr ⟨rfl, _, rfl⟩) (Or.inr ⟨rfl, _, rfl⟩) (Or.inr ⟨rfl, _, rfl⟩) (fun w ts t => by rw [← M3.out]; exact run_min_txt w ts t _ _) (fun w ts t => by rw [← M4.out]; exact run_max_txt w ts t _ _) rfl rfl rfl rfl (fun q => by cases q <;> rfl) (fun q => by cases q <;> rfl) (by omega) (by omega) (by omega) (by omega) HX.out HY.out H4.out HZ.out HBl.out ?fin2
        case fin2 =>
          intro w8 
          simp only [Rg.later, Act.put, List.setIfInBounds_toArray, List.set_cons_succ, List.set_cons_zero]
          intro hx9 hy9 h49 hz9 hb9
          have hz8 : ZAt w8 (w.heap.size + 1 + 1 + 1) r 23 := (by have ho := HO.out; simp only [Z.tog, Z.tx, Z.ty, Z.mix, HA.out, HB.out, if_true, Bool.false_eq_true, if_false] at ho; rw [M1.out, M2.out, M3.out, M4.out] at ho; rw [← ho]; exact hz9)
          have HZ8 : Hid (ZAt w8 (w.heap.size + 1 + 1 + 1) r 23) := hz8
          have H48 : Hid (ZAt w8 (w.heap.size + 1 + 1) Z.zero 23) := h49
          have HB8 : Hid (Below w.heap.size w w8) := hb9
          clear hx9 hy9 h49 hz9 hb9 hz8
          obtain ⟨i0, i1, i2, i3, i4, i5, i6⟩ := HZ8.out.all
          obtain ⟨j0, j1, j2, j3, j4, j5, j6⟩ := H48.out.all
          obtain ⟨k0, k1, k2, k3, k4, k5, k6⟩ := H48.out.fro
          go_wp2_with fail
          exact bodyPost_ret (res_zone (g := w.heap.size + 1 + 1) (z := r) rfl rfl (H48.out.store r)) rfl ⟨rfl, Below.zset HB8.out (by omega) r⟩
  | false =>
    go_wp2_with fail
    refine (least_is b _ hb HB.out).mono ?_
    rintro e w' ⟨rfl, rfl⟩
    cases hb with
    | true =>
      obtain ⟨m1, hm1⟩ : ∃ x, (if b.mn < b.mn then b.mn else b.mn) = x := ⟨_, rfl⟩
      have M1 : Hid ((if b.mn < b.mn then b.mn else b.mn) = m1) := hm1
      clear hm1
      obtain ⟨m2, hm2⟩ : ∃ x, (if b.mx > b.mx then b.mx else b.mx) = x := ⟨_, rfl⟩
      have M2 : Hid ((if b.mx > b.mx then b.mx else b.mx) = m2) := hm2
      clear hm2
      obtain ⟨m3, hm3⟩ : ∃ x, (if T.lt b.ms b.ms = true then b.ms else b.ms) = x := ⟨_, rfl⟩
      have M3 : Hid ((if T.lt b.ms b.ms = true then b.ms else b.ms) = m3) := hm3
      clear hm3
      obtain ⟨m4, hm4⟩ : ∃ x, (if T.lt b.xs b.xs = true then b.xs else b.xs) = x := ⟨_, rfl⟩
      have M4 : Hid ((if T.lt b.xs b.xs = true then b.xs else b.xs) = m4) := hm4
      clear hm4
      go_upto_region 6 with fail
      refine Rg.Fr.wp_duo (wE := w) 52 (by kernel_rfl) 2 3 4 w.heap.size (w.heap.size + 1) (w.heap.size + 1 + 1 + 1) (w.heap.size + 1 + 1) b b Z.zero (fun p q => (⟨a.k, a.r + b.r, a.u + b.u, if p then m1 else 0, if q then m2 else 0, [], []⟩ : Zn)) (.int .i64 b.mn) (.int .i64 b.mn) (.int .i64 m1) (.int .i64 b.mx) (.int .i64 b.mx) (.int .i64 m2) 27 28 29 30 31 32 33 34 35 36 37 38 _ _ _ _ _ _ _ _ _ _ _ _ _ _ rfl rfl (by kernel_rfl) (by kernel_rfl) rfl rfl rfl rfl rfl rfl rfl rfl rfl rfl rfl rfl rfl rfl rfl rfl rfl rfl rfl rfl rfl rfl rfl rfl rfl rfl rfl rfl _ rfl rfl rfl rfl rfl rfl rfl rfl rfl rfl rfl rfl rfl rfl rfl rfl (by omega) (by omega) (Or.inl ⟨rfl, _, rfl⟩) (Or.inl ⟨rfl, _, rfl⟩) (Or.inl ⟨rfl, _, rfl⟩) (Or.inl ⟨rfl, _, rfl⟩) (Or.inl ⟨rfl, _, rfl⟩) (Or.inl ⟨rfl, _, rfl⟩) (fun w ts t => by rw [← M1.out]; exact Go.run_min_int2 w ts t _ _ _ _) (fun w ts t => by rw [← M2.out]; exact Go.run_max_int2 w ts t _ _ _ _) rfl rfl rfl rfl (fun q => by cases q <;> rfl) (fun q => by cases q <;> rfl) (by omega) (by omega) (by omega) (by omega) ((((((ZAt.new w b 23).alloc _).alloc _).alloc _).alloc _).alloc _) (((((ZAt.newat _ (w.heap.size + 1) b (by simp)).alloc _).alloc _).alloc _).alloc _) ((((ZAt.newat _ (w.heap.size + 1 + 1) Z.zero (by simp)).alloc _).alloc _).alloc _) (((ZAt.newat _ (w.heap.size + 1 + 1 + 1) ⟨a.k, a.r + b.r, a.u + b.u, 0, 0, [], []⟩ (by simp)).alloc _).alloc _) (by (repeat' (first | exact Below.refl _ _ | refine Below.drew ?_ | refine Below.alloc ?_ (by simp <;> omega) _))) ?fin
      case fin =>
        intro w9 
        simp only [Rg.later, Act.put, List.setIfInBounds_toArray, List.set_cons_succ, List.set_cons_zero]
        intro hx9 hy9 h49 hz9 hb9
        have HX : Hid (ZAt w9 w.heap.size b 23) := hx9
        have HY : Hid (ZAt w9 (w.heap.size + 1) b 23) := hy9
        have H4 : Hid (ZAt w9 (w.heap.size + 1 + 1) Z.zero 23) := h49
        have HZ : Hid (ZAt w9 (w.heap.size + 1 + 1 + 1) ⟨a.k, a.r + b.r, a.u + b.u, m1, m2, [], []⟩ 23) := hz9
        have HBl : Hid (Below w.heap.size w w9) := hb9
        clear hx9 hy9 h49 hz9 hb9
        go_wp2_with fail
        refine Rg.Fr.wp_duo (wE := w) 52 (by kernel_rfl) 9 5 6 w.heap.size (w.heap.size + 1) (w.heap.size + 1 + 1 + 1) (w.heap.size + 1 + 1) b b Z.zero (fun p q => (⟨a.k, a.r + b.r, a.u + b.u, m1, m2, if p then m3 else [], if q then m4 else []⟩ : Zn)) (.string (str b.ms)) (.string (str b.ms)) (.string (str m3)) (.string (str b.xs)) (.string (str b.xs)) (.string (str m4)) 39 40 41 42 43 44 45 46 47 48 49 50 _ _ _ _ _ _ _ _ _ _ _ _ _ _ rfl rfl (by kernel_rfl) (by kernel_rfl) rfl rfl rfl rfl rfl rfl rfl rfl rfl rfl rfl rfl rfl rfl rfl rfl rfl rfl rfl rfl rfl rfl rfl rfl rfl rfl rfl rfl _ rfl rfl rfl rfl rfl rfl rfl rfl rfl rfl rfl rfl rfl rfl rfl rfl (by omega) (by omega) (Or.inr ⟨rfl, _, rfl⟩) (Or.inr ⟨rfl, _, rfl⟩) (Or.inr ⟨rfl, _, rfl⟩) (Or.inr ⟨rfl, _, rfl⟩) (Or.inr ⟨rfl, _, rfl⟩) (Or.inr ⟨rfl, _, rfl⟩) (fun w ts t => by rw [← M3.out]; exact run_min_txt w ts t _ _) (fun w ts t => by rw [← M4.out]; exact run_max_txt w ts t _ _) rfl rfl rfl rfl (fun q => by cases q <;> rfl) (fun q => by cases q <;> rfl) (by omega) (by omega) (by omega) (by omega) HX.out HY.out H4.out HZ.out HBl.out ?fin2
        case fin2 =>
          intro w8 
          simp only [Rg.later, Act.put, List.setIfInBounds_toArray, List.set_cons_succ, List.set_cons_zero]
          intro hx9 hy9 h49 hz9 hb9
          have hz8 : ZAt w8 (w.heap.size + 1 + 1 + 1) r 23 := (by have ho := HO.out; simp only [Z.tog, Z.tx, Z.ty, Z.mix, HA.out, HB.out, if_true, Bool.false_eq_true, if_false] at ho; rw [M1.out, M2.out, M3.out, M4.out] at ho; rw [← ho]; exact hz9)
          have HZ8 : Hid (ZAt w8 (w.heap.size + 1 + 1 + 1) r 23) := hz8
          have H48 : Hid (ZAt w8 (w.heap.size + 1 + 1) Z.zero 23) := h49
          have HB8 : Hid (Below w.heap.size w w8) := hb9
          clear hx9 hy9 h49 hz9 hb9 hz8
          obtain ⟨i0, i1, i2, i3, i4, i5, i6⟩ := HZ8.out.all
          obtain ⟨j0, j1, j2, j3, j4, j5, j6⟩ := H48.out.all
          obtain ⟨k0, k1, k2, k3, k4, k5, k6⟩ := H48.out.fro
          go_wp2_with fail
          exact bodyPost_ret (res_zone (g := w.heap.size + 1 + 1) (z := r) rfl rfl (H48.out.store r)) rfl ⟨rfl, Below.zset HB8.out (by omega) r⟩
    | false =>
      obtain ⟨m1, hm1⟩ : ∃ x, (if b.mn < b.mn then b.mn else b.mn) = x := ⟨_, rfl⟩
      have M1 : Hid ((if b.mn < b.mn then b.mn else b.mn) = m1) := hm1
      clear hm1
      obtain ⟨m2, hm2⟩ : ∃ x, (if b.mx > b.mx then b.mx else b.mx) = x := ⟨_, rfl⟩
      have M2 : Hid ((if b.mx > b.mx then b.mx else b.mx) = m2) := hm2
      clear hm2
      obtain ⟨m3, hm3⟩ : ∃ x, (if T.lt b.ms b.ms = true then b.ms else b.ms) = x := ⟨_, rfl⟩
      have M3 : Hid ((if T.lt b.ms b.ms = true then b.ms else b.ms) = m3) := hm3
      clear hm3
      obtain ⟨m4, hm4⟩ : ∃ x, (if T.lt b.xs b.xs = true then b.xs else b.xs) = x := ⟨_, rfl⟩
      have M4 : Hid ((if T.lt b.xs b.xs = true then b.xs else b.xs) = m4) := hm4
      clear hm4
      go_upto_region 6 with fail
      refine Rg.Fr.wp_duo (wE := w) 52 (by kernel_rfl) 2 3 4 w.heap.size (w.heap.size + 1) (w.heap.size + 1 + 1 + 1) (w.heap.size + 1 + 1) b b Z.zero (fun p q => (⟨a.k, a.r + b.r, a.u + b.u, if p then m1 else 0, if q then m2 else 0, [], []⟩ : Zn)) (.int .i64 b.mn) (.int .i64 b.mn) (.int .i64 m1) (.int .i64 b.mx) (.int .i64 b.mx) (.int .i64 m2) 27 28 29 30 31 32 33 34 35 36 37 38 _ _ _ _ _ _ _ _ _ _ _ _ _ _ rfl rfl (by kernel_rfl) (by kernel_rfl) rfl rfl rfl rfl rfl rfl rfl rfl rfl rfl rfl rfl rfl rfl rfl rfl rfl rfl rfl rfl rfl rfl rfl rfl rfl rfl rfl rfl _ rfl rfl rfl rfl rfl rfl rfl rfl rfl rfl rfl rfl rfl rfl rfl rfl (by omega) (by omega) (Or.inl ⟨rfl, _, rfl⟩) (Or.inl ⟨rfl, _, rfl⟩) (Or.inl ⟨rfl, _, rfl⟩) (Or.inl ⟨rfl, _, rfl⟩) (Or.inl ⟨rfl, _, rfl⟩) (Or.inl ⟨rfl, _, rfl⟩) (fun w ts t => by rw [← M1.out]; exact Go.run_min_int2 w ts t _ _ _ _) (fun w ts t => by rw [← M2.out]; exact Go.run_max_int2 w ts t _ _ _ _) rfl rfl rfl rfl (fun q => by cases q <;> rfl) (fun q => by cases q <;> rfl) (by omega) (by omega) (by omega) (by omega) ((((((ZAt.new w b 23).alloc _).alloc _).alloc _).alloc _).alloc _) (((((ZAt.newat _ (w.heap.size + 1) b (by simp)).alloc _).alloc _).alloc _).alloc _) ((((ZAt.newat _ (w.heap.size + 1 + 1) Z.zero (by simp)).alloc _).alloc _).alloc _) (((ZAt.newat _ (w.heap.size + 1 + 1 + 1) ⟨a.k, a.r + b.r, a.u + b.u, 0, 0, [], []⟩ (by simp)).alloc _).alloc _) (by (repeat' (first | exact Below.refl _ _ | refine Below.drew ?_ | refine Below.alloc ?_ (by simp <;> omega) _))) ?fin
      case fin =>
        intro w9 
        simp only [Rg.later, Act.put, List.setIfInBounds_toArray, List.set_cons_succ, List.set_cons_zero]
        intro hx9 hy9 h49 hz9 hb9
        have HX : Hid (ZAt w9 w.heap.size b 23) := hx9
        have HY : Hid (ZAt w9 (w.heap.size + 1) b 23) := hy9
        have H4 : Hid (ZAt w9 (w.heap.size + 1 + 1) Z.zero 23) := h49
        have HZ : Hid (ZAt w9 (w.heap.size + 1 + 1 + 1) ⟨a.k, a.r + b.r, a.u + b.u, m1, m2, [], []⟩ 23) := hz9
        have HBl : Hid (Below w.heap.size w w9) := hb9
        clear hx9 hy9 h49 hz9 hb9
        go_wp2_with fail
        refine Rg.Fr.wp_duo (wE := w) 52 (by kernel_rfl) 9 5 6 w.heap.size (w.heap.size + 1) (w.heap.size + 1 + 1 + 1) (w.heap.size + 1 + 1) b b Z.zero (fun p q => (⟨a.k, a.r + b.r, a.u + b.u, m1, m2, if p then m3 else [], if q then m4 else []⟩ : Zn)) (.string (str b.ms)) (.string (str b.ms)) (.string (str m3)) (.string (str b.xs)) (.string (str b.xs)) (.string (str m4)) 39 40 41 42 43 44 45 46 47 48 49 50 _ _ _ _ _ _ _ _ _ _ _ _ _ _ rfl rfl (by kernel_rfl) (by kernel_rfl) rfl rfl rfl rfl rfl rfl rfl rfl rfl rfl rfl rfl rfl rfl rfl rfl rfl rfl rfl rfl rfl rfl rfl rfl rfl rfl rfl rfl _ rfl rfl rfl rfl rfl rfl rfl rfl rfl rfl rfl rfl rfl rfl rfl rfl (by omega) (by omega) (Or.inr ⟨rfl, _, rfl⟩) (Or.inr ⟨rfl, _, rfl⟩) (Or.inr ⟨rfl, _, rfl⟩) (Or.inr ⟨rfl, _, rfl⟩) (Or.inr ⟨rfl, _, rfl⟩) (Or.inr ⟨rfl, _, rfl⟩) (fun w ts t => by rw [← M3.out]; exact run_min_txt w ts t _ _) (fun w ts t => by rw [← M4.out]; exact run_max_txt w ts t _ _) rfl rfl rfl rfl (fun q => by cases q <;> rfl) (fun q => by cases q <;> rfl) (by omega) (by omega) (by omega) (by omega) HX.out HY.out H4.out HZ.out HBl.out ?fin2
        case fin2 =>
          intro w8 
          simp only [Rg.later, Act.put, List.setIfInBounds_toArray, List.set_cons_succ, List.set_cons_zero]
          intro hx9 hy9 h49 hz9 hb9
          have hz8 : ZAt w8 (w.heap.size + 1 + 1 + 1) r 23 := (by have ho := HO.out; simp only [Z.tog, Z.tx, Z.ty, Z.mix, HA.out, HB.out, if_true, Bool.false_eq_true, if_false] at ho; rw [M1.out, M2.out, M3.out, M4.out] at ho; rw [← ho]; exact hz9)
          have HZ8 : Hid (ZAt w8 (w.heap.size + 1 + 1 + 1) r 23) := hz8
          have H48 : Hid (ZAt w8 (w.heap.size + 1 + 1) Z.zero 23) := h49
          have HB8 : Hid (Below w.heap.size w w8) := hb9
          clear hx9 hy9 h49 hz9 hb9 hz8
          obtain ⟨i0, i1, i2, i3, i4, i5, i6⟩ := HZ8.out.all
          obtain ⟨j0, j1, j2, j3, j4, j5, j6⟩ := H48.out.all
          obtain ⟨k0, k1, k2, k3, k4, k5, k6⟩ := H48.out.fro
          go_wp2_with fail
          exact bodyPost_ret (res_zone (g := w.heap.size + 1 + 1) (z := r) rfl rfl (H48.out.store r)) rfl ⟨rfl, Below.zset HB8.out (by omega) r⟩
end Go.Proofs.Ytnfbmffafclaaaa
