/-
  The document's own Size and deep. Taken out of another text of mine: Rname. The document's own right, Right. The document's own right, of some kinds.
-/
import Derived.Test.YtibnhjfeepdddaaM16
import Derived.Test.YtibnhjfeepdddaaM17
import Derived.Test.YtibnhjfeepdddaaM20
import Derived.Test.YtibnhjfeepdddaaM19
import Derived.Deep.CutBlock
namespace Go.Proofs.Ytibnhjfeepdddaa
open Go.RowKit
set_option linter.unusedVariables false
set_option linter.unusedSimpArgs false
theorem Pd.max_snoc : ∀ (l : List Nat) (y : Nat), (l ++ [y]).foldr max 0 = max (l.foldr max 0) y
 | [], y => by simp
 | x :: t, y => by
  have h := Pd.max_snoc t y
  simp only [List.cons_append, List.foldr_cons]
  rw [h]
  omega
theorem Pd.deep_size : ∀ p, Pd.deep p ≤ Pd.size p := by
 refine Pd.tree ?_
 intro h l ih
 rw [Pd.deep_mk, Pd.size_mk]
 have : (l.map Pd.deep).foldr max 0 ≤ (l.map Pd.size).sum := by
  clear h
  induction l with
  | nil => simp
  | cons x t iht =>
   have h1 := ih x (by simp)
   have h2 := iht fun y hy => ih y (by simp [hy])
   rw [List.map_cons, List.foldr_cons, List.map_cons, List.sum_cons]
   omega
 omega
set_option maxHeartbeats 4000000 in
set_option maxRecDepth 100000 in
theorem rsize_is : ∀ (p : Pr) (v : PV) (w : World), Pd.Lay (fun _ => True) p w v → Pd.size p ≤ 1000000000 → Calls Try.prog 16 #[pvv v] w fun e w' => e = .returned (.int .i64 (Pd.size p : Int)) ∧ Ex w w' := by
 refine Pd.tree ?_
 intro h l ih v w hL hsz
 obtain ⟨hHd, hkn, hkB, hkc, hkm, hk0⟩ := hL.head
 obtain ⟨vk, vcol, vn, vm, vs, vset, ⟨p, n, cap⟩⟩ := v
 simp only at hkn hkB hkc hkm hk0
 subst hkn
 unfold maxLen at hkm
 rw [Pd.size_mk] at hsz
 obtain ⟨Z, hZ⟩ : ∃ Z, Pd.size (Pr.mk' h l) = Z := ⟨_, rfl⟩
 have HZ : Hid (1 + (l.map Pd.size).sum = Z) := (by rw [← hZ, Pd.size_mk] : 1 + (l.map Pd.size).sum = Z)
 rw [hZ]
 have HSM : Hid ((l.map Pd.size).sum ≤ 1000000000) := (by omega : (l.map Pd.size).sum ≤ 1000000000)
 have HIH : Hid (∀ k ∈ l, ∀ (v : PV) (w : World), Pd.Lay (fun _ => True) k w v → Pd.size k ≤ 1000000000 → Calls Try.prog 16 #[pvv v] w fun e w' => e = .returned (.int .i64 (Pd.size k : Int)) ∧ Ex w w') := ih
 have HLw : Hid (Pd.Lay (fun _ => True) (Pr.mk' h l) w ⟨vk, vcol, vn, vm, vs, vset, p, l.length, cap⟩) := hL
 obtain ⟨W, hW⟩ : ∃ W, w.alloc (pb ⟨vk, vcol, vn, vm, vs, vset, p, l.length, cap⟩) = W := ⟨_, rfl⟩
 have hXW : Ex w W := by rw [← hW]; exact (Below.refl _ _).alloc (Nat.le_refl _) _
 have HXW : Hid (Ex w W) := hXW
 have HP : Hid (PAt W w.heap.size ⟨vk, vcol, vn, vm, vs, vset, p, l.length, cap⟩) := (by rw [← hW]; exact PAt.new w _ : PAt W w.heap.size _)
 clear hL hHd hkB ih hXW hZ hsz
 unfold pvv
 simp only [sv]
 go_enter Try.func16, Try.ntmps16
 go_wp2_with fail
 go_loopw [4, 3] (fun iv nv wr => ∃ i S : Nat, i ≤ l.length ∧ iv = .int .i64 i ∧ nv = .int .i64 S ∧ S ≤ 1000000001 ∧ Hid (S = 1 + ((l.take i).map Pd.size).sum) ∧ Hid (Ex W wr)) (fun iv nv wr => l.length - (intOf iv).toNat)
 case atStart => exact ⟨0, 1, by omega, rfl, rfl, by omega, (by simp : 1 = 1 + ((l.take 0).map Pd.size).sum), Ex.refl W⟩
 case round =>
  obtain ⟨i, S, hi, rfl, rfl, hS, HS, HXr⟩ := hrel
  obtain ⟨c0, c1, c2, c3, c4, c5, c6⟩ := (HP.out.below HXr.out).all
  simp only at c0 c1 c2 c3 c4 c5 c6
  by_cases hlt : i < l.length
  ·have hti : (i : Int) < (l.length : Int) := by omega
   have hLr := Pd.Lay.below _ HLw.out (HXW.out.trans HXr.out)
   obtain ⟨b, off, x, hpp, hbg, hLk, e0, e1, e2, e3, e4, e5, e6⟩ := hLr.kid hlt
   simp only at hpp
   obtain ⟨k, hk⟩ : ∃ k, l[i] = k := ⟨_, rfl⟩
   rw [hk] at hLk
   have hsum := Pd.sum_take l (i + 1)
   have hnx : ((l.take (i + 1)).map Pd.size).sum = ((l.take i).map Pd.size).sum + Pd.size k := by rw [List.take_add_one, List.getElem?_eq_getElem hlt, hk]; simp
   obtain ⟨Q, hQ⟩ : ∃ Q, Pd.size k = Q := ⟨_, rfl⟩
   have HNX : Hid (S + Q = 1 + ((l.take (i + 1)).map Pd.size).sum) := (by rw [hnx, HS.out, hQ]; omega : S + Q = 1 + ((l.take (i + 1)).map Pd.size).sum)
   have hQl : S + Q ≤ 1000000001 := by have h1 := HNX.out; have h2 := HSM.out; omega
   have HC : Hid (Calls Try.prog 16 #[pvv x] wr fun e w' => e = .returned (.int .i64 (Q : Int)) ∧ Ex wr w') := (by
    have h := HIH.out k (by rw [← hk]; exact List.getElem_mem hlt) x wr hLk (by rw [hQ]; have h9 := HS.out; omega)
    rw [hQ] at h
    exact h : Calls _ _ _ _ _)
   subst hpp
   clear hLr hLk hk hbg hQ hsum hnx
   go_wp2_with fail
   go_at_call 16
   refine Calls.mono HC.out ?_
   rintro e w2 ⟨rfl, hx2⟩
   have HX2 : Hid (Ex W w2) := (HXr.out.trans hx2 : Ex W w2)
   clear hx2 HC
   go_wp2_with fail
   go_roundw
   case rel => exact ⟨i + 1, S + Q, by omega, by go_num, by go_num, by omega, HNX, HX2⟩
   case measure => simp [intOf]; omega
  ·have hti : ¬ (i : Int) < (l.length : Int) := by omega
   have HE : Hid (S = Z) := (by
    have h := HS.out
    rw [List.take_of_length_le (by omega), HZ.out] at h
    exact h : S = Z)
   go_wp2_with fail
   go_ret
   exact ⟨by rw [HE.out]; rfl, HXW.out.trans HXr.out⟩
set_option maxHeartbeats 4000000 in
set_option maxRecDepth 100000 in
theorem rdeep_is : ∀ (p : Pr) (v : PV) (w : World), Pd.Lay (fun _ => True) p w v → Pd.deep p ≤ 1000000000 → Calls Try.prog 52 #[pvv v] w fun e w' => e = .returned (.int .i64 (Pd.deep p : Int)) ∧ Ex w w' := by
 refine Pd.tree ?_
 intro h l ih v w hL hsz
 obtain ⟨hHd, hkn, hkB, hkc, hkm, hk0⟩ := hL.head
 obtain ⟨vk, vcol, vn, vm, vs, vset, ⟨p, n, cap⟩⟩ := v
 simp only at hkn hkB hkc hkm hk0
 subst hkn
 unfold maxLen at hkm
 rw [Pd.deep_mk] at hsz
 obtain ⟨Z, hZ⟩ : ∃ Z, Pd.deep (Pr.mk' h l) = Z := ⟨_, rfl⟩
 have HZ : Hid ((l.map Pd.deep).foldr max 0 + 1 = Z) := (by rw [← hZ, Pd.deep_mk] : (l.map Pd.deep).foldr max 0 + 1 = Z)
 rw [hZ]
 have HSM : Hid (∀ k ∈ l, Pd.deep k ≤ 1000000000) := (fun k hk => by have := Pd.deep_in hk; omega : ∀ k ∈ l, Pd.deep k ≤ 1000000000)
 have HIH : Hid (∀ k ∈ l, ∀ (v : PV) (w : World), Pd.Lay (fun _ => True) k w v → Pd.deep k ≤ 1000000000 → Calls Try.prog 52 #[pvv v] w fun e w' => e = .returned (.int .i64 (Pd.deep k : Int)) ∧ Ex w w') := ih
 have HLw : Hid (Pd.Lay (fun _ => True) (Pr.mk' h l) w ⟨vk, vcol, vn, vm, vs, vset, p, l.length, cap⟩) := hL
 obtain ⟨W, hW⟩ : ∃ W, w.alloc (pb ⟨vk, vcol, vn, vm, vs, vset, p, l.length, cap⟩) = W := ⟨_, rfl⟩
 have hXW : Ex w W := by rw [← hW]; exact (Below.refl _ _).alloc (Nat.le_refl _) _
 have HXW : Hid (Ex w W) := hXW
 have HP : Hid (PAt W w.heap.size ⟨vk, vcol, vn, vm, vs, vset, p, l.length, cap⟩) := (by rw [← hW]; exact PAt.new w _ : PAt W w.heap.size _)
 clear hL hHd hkB ih hXW hZ hsz
 unfold pvv
 simp only [sv]
 go_enter Try.func52, Try.ntmps52
 go_wp2_with fail
 go_loopw [4, 3, 5] (fun iv nv kv wr => ∃ i S : Nat, i ≤ l.length ∧ iv = .int .i64 i ∧ nv = .int .i64 S ∧ S ≤ 1000000000 ∧ Hid (S = ((l.take i).map Pd.deep).foldr max 0) ∧ Hid (Ex W wr)) (fun iv nv kv wr => l.length - (intOf iv).toNat)
 case atStart => exact ⟨0, 0, by omega, rfl, rfl, by omega, (by simp : 0 = ((l.take 0).map Pd.deep).foldr max 0), Ex.refl W⟩
 case round =>
  obtain ⟨i, S, hi, rfl, rfl, hS, HS, HXr⟩ := hrel
  obtain ⟨c0, c1, c2, c3, c4, c5, c6⟩ := (HP.out.below HXr.out).all
  simp only at c0 c1 c2 c3 c4 c5 c6
  by_cases hlt : i < l.length
  ·have hti : (i : Int) < (l.length : Int) := by omega
   have hLr := Pd.Lay.below _ HLw.out (HXW.out.trans HXr.out)
   obtain ⟨b, off, x, hpp, hbg, hLk, e0, e1, e2, e3, e4, e5, e6⟩ := hLr.kid hlt
   simp only at hpp
   obtain ⟨k, hk⟩ : ∃ k, l[i] = k := ⟨_, rfl⟩
   rw [hk] at hLk
   have hnx : ((l.take (i + 1)).map Pd.deep).foldr max 0 = max (((l.take i).map Pd.deep).foldr max 0) (Pd.deep k) := by rw [List.take_add_one, List.getElem?_eq_getElem hlt, hk]; simp only [List.map_append, Option.toList, List.map_cons, List.map_nil]; rw [Pd.max_snoc]
   obtain ⟨Q, hQ⟩ : ∃ Q, Pd.deep k = Q := ⟨_, rfl⟩
   have hkm2 : k ∈ l := by rw [← hk]; exact List.getElem_mem hlt
   have hQl : Q ≤ 1000000000 := by rw [← hQ]; exact HSM.out k hkm2
   have HNX : Hid (max S Q = ((l.take (i + 1)).map Pd.deep).foldr max 0) := (by rw [hnx, HS.out, hQ] : max S Q = ((l.take (i + 1)).map Pd.deep).foldr max 0)
   have HC : Hid (Calls Try.prog 52 #[pvv x] wr fun e w' => e = .returned (.int .i64 (Q : Int)) ∧ Ex wr w') := (by
    have h := HIH.out k hkm2 x wr hLk (HSM.out k hkm2)
    rw [hQ] at h
    exact h : Calls _ _ _ _ _)
   subst hpp
   clear hLr hLk hk hbg hQ hnx hkm2
   go_wp2_with fail
   go_at_call 52
   refine Calls.mono HC.out ?_
   rintro e w2 ⟨rfl, hx2⟩
   have HX2 : Hid (Ex W w2) := (HXr.out.trans hx2 : Ex W w2)
   clear hx2 HC
   by_cases hgt : S < Q
   ·have hgi : (S : Int) < (Q : Int) := by omega
    have HN2 : Hid (Q = ((l.take (i + 1)).map Pd.deep).foldr max 0) := (by rw [← HNX.out]; omega : Q = ((l.take (i + 1)).map Pd.deep).foldr max 0)
    go_wp2_with fail
    go_roundw
    case rel => exact ⟨i + 1, Q, by omega, by go_num, rfl, by omega, HN2, HX2⟩
    case measure => simp [intOf]; omega
   ·have hgi : ¬ (S : Int) < (Q : Int) := by omega
    have HN2 : Hid (S = ((l.take (i + 1)).map Pd.deep).foldr max 0) := (by rw [← HNX.out]; omega : S = ((l.take (i + 1)).map Pd.deep).foldr max 0)
    go_wp2_with fail
    go_roundw
    case rel => exact ⟨i + 1, S, by omega, by go_num, rfl, by omega, HN2, HX2⟩
    case measure => simp [intOf]; omega
  ·have hti : ¬ (i : Int) < (l.length : Int) := by omega
   have HE : Hid (S + 1 = Z) := (by
    have h := HS.out
    rw [List.take_of_length_le (by omega)] at h
    rw [← HZ.out, h] : S + 1 = Z)
   go_wp2_with fail
   go_ret
   exact ⟨by rw [← HE.out]; go_num, HXW.out.trans HXr.out⟩
end Go.Proofs.Ytibnhjfeepdddaa
namespace Go.Proofs.Ytibnhjfeepdddaa
open Go.RowKit
set_option linter.unusedVariables false
set_option linter.unusedSimpArgs false
set_option maxHeartbeats 4000000 in
set_option maxRecDepth 100000 in
theorem rname_is (s : List UInt8) (w : World) (hs : s.length ≤ maxLen) (r : Bool) (hr : Rw.name s = r) : Calls Try.prog 76 #[.string (str s)] w fun e w' => e = .returned (.bool r) ∧ w' = w := by
 have HR : Hid (Rw.name s = r) := hr
 have hss : (str s).size = s.length := str_size s
 unfold maxLen at hs
 clear hr
 go_enter Try.func76, Try.ntmps76
 go_wp2_with fail
 go_loopw [3] (fun iv wr => ∃ i : Nat, i ≤ s.length ∧ iv = .int .i64 i ∧ Hid ((s.take i).all Rw.small = true) ∧ wr = w) (fun iv wr => s.length - (intOf iv).toNat)
 case atStart => exact ⟨0, by omega, rfl, (by simp : (s.take 0).all Rw.small = true), rfl⟩
 case round =>
  obtain ⟨i, hi, rfl, HA, hwr⟩ := hrel
  have hwr := hwr.symm
  subst hwr
  by_cases hlt : i < s.length
  ·have hti : (i : Int) < (s.length : Int) := by omega
   have hti2 : i < (str s).size := by omega
   obtain ⟨x, hx⟩ : ∃ x, s[i]'hlt = x := ⟨_, rfl⟩
   have hb : ((str s)[i]'hti2).toNat = x.toNat := by rw [← hx]; exact str_at hti2 hlt
   have hx256 := x.toNat_lt
   have hnx : s.take (i + 1) = s.take i ++ [x] := by rw [List.take_add_one, List.getElem?_eq_getElem hlt, hx]; rfl
   have HNX : Hid (s.take (i + 1) = s.take i ++ [x]) := hnx
   have HM : Hid (x ∈ s) := (by rw [← hx]; exact List.getElem_mem hlt : x ∈ s)
   clear hx hnx
   by_cases h1 : x.toNat < 97
   ·have t1 : decide ((x.toNat : Int) < 97) = true := by simp; omega
    have t2 : decide (x.toNat < 97) = true := by simp; omega
    go_wp2_with fail
    go_ret
    refine ⟨?_, rfl⟩
    rw [← HR.out, Rw.name_no HM.out (by unfold Rw.small; simp; omega)]; rfl
   ·by_cases h2 : 122 < x.toNat
    ·have t1 : decide ((x.toNat : Int) < 97) = false := by simp; omega
     have t2 : decide (x.toNat < 97) = false := by simp; omega
     have t3 : decide (122 < (x.toNat : Int)) = true := by simp; omega
     have t4 : decide (122 < x.toNat) = true := by simp; omega
     go_wp2_with fail
     go_ret
     refine ⟨?_, rfl⟩
     rw [← HR.out, Rw.name_no HM.out (by unfold Rw.small; simp; omega)]; rfl
    ·have t1 : decide ((x.toNat : Int) < 97) = false := by simp; omega
     have t2 : decide (x.toNat < 97) = false := by simp; omega
     have t3 : decide (122 < (x.toNat : Int)) = false := by simp; omega
     have t4 : decide (122 < x.toNat) = false := by simp; omega
     have HA2 : Hid ((s.take (i + 1)).all Rw.small = true) := (by rw [HNX.out, List.all_append, HA.out]; simp [Rw.small]; omega : (s.take (i + 1)).all Rw.small = true)
     go_wp2_with fail
     go_roundw
     case rel => exact ⟨i + 1, by omega, by go_num, HA2, by simp⟩
     case measure => simp [intOf]; omega
  ·have hti : ¬ (i : Int) < (s.length : Int) := by omega
   obtain rfl : i = s.length := by omega
   have hA := HA.out
   rw [List.take_length] at hA
   have HN : Hid (r = (decide (1 ≤ s.length) && decide (s.length ≤ 12))) := (by rw [← HR.out]; unfold Rw.name; rw [show (fun b : UInt8 => decide (97 ≤ b.toNat) && decide (b.toNat ≤ 122)) = Rw.small from rfl, hA, Bool.true_and] : r = (decide (1 ≤ s.length) && decide (s.length ≤ 12)))
   clear hA HA
   by_cases h1 : 1 ≤ s.length
   ·have t1 : decide (1 ≤ (s.length : Int)) = true := by simp; omega
    by_cases h2 : s.length ≤ 12
    ·have t2 : decide ((s.length : Int) ≤ 12) = true := by simp; omega
     go_wp2_with fail
     go_ret
     refine ⟨?_, rfl⟩
     rw [HN.out]; simp [h1, h2]
    ·have t2 : decide ((s.length : Int) ≤ 12) = false := by simp; omega
     go_wp2_with fail
     go_ret
     refine ⟨?_, rfl⟩
     rw [HN.out]; simp [h1, h2]
   ·have t1 : decide (1 ≤ (s.length : Int)) = false := by simp; omega
    go_wp2_with fail
    go_ret
    refine ⟨?_, rfl⟩
    rw [HN.out]; simp [h1]
end Go.Proofs.Ytibnhjfeepdddaa
namespace Go.Proofs.Ytibnhjfeepdddaa
open Go.RowKit
set_option linter.unusedVariables false
set_option linter.unusedSimpArgs false
theorem int_len (n : Nat) : ((n : Int) == 0) = decide (n = 0) := by
 by_cases h : n = 0
 ·subst h; rfl
 ·rw [decide_eq_false h]; exact beq_eq_false_iff_ne.2 (by omega)
theorem int_eq (a b : Int) : (a == b) = decide (a = b) := by
 by_cases h : a = b
 ·subst h; simp
 ·rw [decide_eq_false h]; exact beq_eq_false_iff_ne.2 h
theorem emp_eq (l : List UInt8) : l.isEmpty = decide (l = []) := by cases l <;> simp
/-- A part's form, of what is known of each of its fields. -/
theorem part_of (k : Int) (col : List UInt8) (n m : Int) (s : List UInt8) (set : List (List UInt8)) (L : Nat) (bc bn n0 m0 ts ss ks : Bool) (h1 : Rw.name col = bc) (h2 : col.isEmpty = bn) (h3 : (n == 0) = n0) (h4 : (m == 0) = m0) (h5 : s.isEmpty = ts) (h6 : ((set.length : Int) == 0) = ss) (h7 : ((L : Int) == 0) = ks) :
  Pd.part ⟨k, col, n, m, s, set⟩ L = (if k = 1 ∨ k = 2 then (bn && (n0 && m0) && ts && ss) else if k = 3 then (bn && (n0 && m0) && ts && ss && decide (L = 1)) else if k = 4 ∨ k = 5 then (bc && m0 && ts && ss && ks)
   else if k = 6 ∨ k = 8 then (bc && (n0 && m0) && decide (s.length ≤ 40) && ss && ks) else if k = 7 then (bc && (n0 && m0) && ts && ks && decide (set.length ≤ 8) && T.adj set && set.all (fun s => decide (s.length ≤ 40)))
   else if k = 9 then (bc && (n0 && m0) && ts && ss && ks) else if k = 10 then (bn && ts && ss && ks) else false) := by
 rw [int_eq] at h3 h4
 rw [int_len] at h6 h7
 rw [emp_eq] at h2 h5
 have e6 : decide (set = []) = ss := by rw [← h6]; congr 1; exact propext ⟨fun h => by rw [h]; rfl, fun h => List.eq_nil_of_length_eq_zero h⟩
 unfold Pd.part
 simp only [h1]
 rw [← h2, ← h3, ← h4, ← h5, ← e6, ← h7]
 repeat' split
 all_goals first | rfl | (rw [Bool.eq_iff_iff]; simp only [Bool.and_eq_true, decide_eq_true_eq]; constructor <;> intro h <;> simp_all)
/-- What right answers. -/
def RightC (k : Pr) : Prop := ∀ (v : PV) (w : World), Pd.Lay (fun _ => True) k w v → Pd.Fine k → ∀ o, Pd.form k = o → Calls Try.prog 53 #[pvv v] w fun e w' => e = .returned (.bool o) ∧ Ex w w'
end Go.Proofs.Ytibnhjfeepdddaa
namespace Go.Proofs.Ytibnhjfeepdddaa
open Go.RowKit
set_option linter.unusedVariables false
set_option linter.unusedSimpArgs false
set_option maxHeartbeats 16000000 in
set_option maxRecDepth 100000 in
theorem rright_a (h : Hd) (l : List Pr) (ih : ∀ k ∈ l, RightC k) (hk : h.k = 1 ∨ h.k = 2) : RightC (Pr.mk' h l) := by
 intro v w hL hF o ho
 rw [Pd.fine_mk] at hF
 obtain ⟨hFi, hl1, hFk⟩ := hF
 obtain ⟨hHd, hkn, hkB, hkc, hkm, hk0⟩ := hL.head
 obtain ⟨vk, vcol, vn, vm, vs, ⟨sa, sn, sc⟩, ⟨p, n, cap⟩⟩ := v
 simp only at hkn hkB hkc hkm hk0
 subst hkn
 obtain ⟨k, col, hn', m, s, set⟩ := h
 obtain ⟨⟨hv1, hv2, hv3, hv4, hv5⟩, hsn, hB, _⟩ := hHd
 simp only at hv1 hv2 hv3 hv4 hv5 hsn hB
 subst hv1 hv2 hv3 hv4 hv5 hsn
 simp only at hk
 have hs1 := hB.1
 have hs2 := hB.2.1
 unfold maxLen at hkm hs2
 have hc1 : vcol.length ≤ 1000 := hFi.col
 have hc2 : vs.length ≤ 1000 := hFi.s
 have hc3 : set.length ≤ 1000 := hFi.set
 have HEA : Hid (∀ t ∈ set, t.length ≤ 1000) := hFi.each
 have HIH : Hid (∀ k ∈ l, RightC k) := ih
 have HFK : Hid (∀ k ∈ l, Pd.Fine k) := hFk
 have HLw : Hid (Pd.Lay (fun _ => True) (Pr.mk' ⟨vk, vcol, vn, vm, vs, set⟩ l) w ⟨vk, vcol, vn, vm, vs, (sa, set.length, sc), p, l.length, cap⟩) := hL
 obtain ⟨W, hW⟩ : ∃ W, w.alloc (pb ⟨vk, vcol, vn, vm, vs, (sa, set.length, sc), p, l.length, cap⟩) = W := ⟨_, rfl⟩
 have hXW : Ex w W := by rw [← hW]; exact (Below.refl _ _).alloc (Nat.le_refl _) _
 have HXW : Hid (Ex w W) := hXW
 have HP : Hid (PAt W w.heap.size ⟨vk, vcol, vn, vm, vs, (sa, set.length, sc), p, l.length, cap⟩) := (by rw [← hW]; exact PAt.new w _ : PAt W w.heap.size _)
 have HST : Hid (Rd st W sa sc set) := (hB.below hXW : Rd st W sa sc set)
 obtain ⟨B, hBB⟩ : ∃ B, Pd.part ⟨vk, vcol, vn, vm, vs, set⟩ l.length = B := ⟨_, rfl⟩
 have HO : Hid ((B && l.all Pd.form) = o) := (by rw [← ho, Pd.form_mk, hBB] : (B && l.all Pd.form) = o)
 obtain ⟨bc, hbc⟩ : ∃ b, Rw.name vcol = b := ⟨_, rfl⟩
 have HBC : Hid (Rw.name vcol = bc) := hbc
 obtain ⟨bn, hbn⟩ : ∃ b, vcol.isEmpty = b := ⟨_, rfl⟩
 obtain ⟨n0, hn0⟩ : ∃ b, (vn == 0) = b := ⟨_, rfl⟩
 obtain ⟨m0, hm0⟩ : ∃ b, (vm == 0) = b := ⟨_, rfl⟩
 obtain ⟨ts, hts⟩ : ∃ b, vs.isEmpty = b := ⟨_, rfl⟩
 obtain ⟨ss, hss⟩ : ∃ b, ((set.length : Int) == 0) = b := ⟨_, rfl⟩
 obtain ⟨ks, hks⟩ : ∃ b, ((l.length : Int) == 0) = b := ⟨_, rfl⟩
 obtain ⟨nm, hnm⟩ : ∃ b, (n0 && m0) = b := ⟨_, rfl⟩
 have hpo := part_of vk vcol vn vm vs set l.length bc bn n0 m0 ts ss ks hbc hbn hn0 hm0 hts hss hks
 rw [hnm, hBB] at hpo
 have HPO : Hid (B = _) := hpo
 have HNM : Hid ((n0 && m0) = nm) := hnm
 obtain ⟨c0, c1, c2, c3, c4, c5, c6⟩ := HP.out.all
 simp only at c0 c1 c2 c3 c4 c5 c6
 have HWW : Hid (w.alloc (pb ⟨vk, vcol, vn, vm, vs, (sa, set.length, sc), p, l.length, cap⟩) = W) := hW
 have z1 := str_toList vcol
 have z2 := str_toList vs
 have z3 := str_size vs
 clear hL hFi hFk hkB hB hbc ih hXW hpo ho hBB hnm
 unfold pvv
 simp only [sv]
 go_enter Try.func53, Try.ntmps53
 go_wp2_with fail
 go_at_call 76
 refine (rname_is vcol W (by unfold maxLen; omega) bc HBC.out).mono ?_
 rintro e w1 ⟨rfl, hw⟩
 replace hw := hw.symm
 subst hw
 clear hW
 go_upto_region 3 with fail
 go_cut [5] (fun v wc => v = .bool nm ∧ wc = W)
 case first =>
  cases n0 with
  | false =>
   go_wp2_with fail
   go_meet
   exact ⟨by rw [← HNM.out]; rfl, rfl⟩
  | true =>
   go_wp2_with fail
   go_meet
   exact ⟨by rw [← HNM.out]; rfl, rfl⟩
 case rest =>
  obtain ⟨rfl, hwc⟩ := hcut
  replace hwc := hwc.symm
  subst hwc
  go_upto_block 0 with fail
  go_cut [9] (fun v wd => v = .bool B ∧ Hid (Ex W wd))
  case first =>
   have HQ0 := HPO.out
   skip
   by_cases k1 : vk = 1
   ·have HQ : Hid (B = _) := (by rw [if_pos (by omega)] at HQ0; exact HQ0 : B = (bn && nm && ts && ss))
    subst k1
    clear HQ0 HPO
    go_upto_region 11 with fail
    cases bn with
    | false =>
     go_wp2_with fail
     go_meet
     exact ⟨by rw [HQ.out]; first | done | rfl, (Ex.refl _ : Ex _ _)⟩
    | true =>
     cases nm with
     | false =>
      go_wp2_with fail
      go_meet
      exact ⟨by rw [HQ.out]; first | done | rfl, (Ex.refl _ : Ex _ _)⟩
     | true =>
      cases ts with
      | false =>
       go_wp2_with fail
       go_meet
       exact ⟨by rw [HQ.out]; first | done | rfl, (Ex.refl _ : Ex _ _)⟩
      | true =>
       go_wp2_with fail
       go_meet
       exact ⟨by rw [HQ.out]; first | done | rfl, (Ex.refl _ : Ex _ _)⟩
   have k2 : vk = 2 := by omega
   skip
   ·have HQ : Hid (B = _) := (by rw [if_pos (by omega)] at HQ0; exact HQ0 : B = (bn && nm && ts && ss))
    subst k2
    clear HQ0 HPO
    go_upto_region 11 with fail
    cases bn with
    | false =>
     go_wp2_with fail
     go_meet
     exact ⟨by rw [HQ.out]; first | done | rfl, (Ex.refl _ : Ex _ _)⟩
    | true =>
     cases nm with
     | false =>
      go_wp2_with fail
      go_meet
      exact ⟨by rw [HQ.out]; first | done | rfl, (Ex.refl _ : Ex _ _)⟩
     | true =>
      cases ts with
      | false =>
       go_wp2_with fail
       go_meet
       exact ⟨by rw [HQ.out]; first | done | rfl, (Ex.refl _ : Ex _ _)⟩
      | true =>
       go_wp2_with fail
       go_meet
       exact ⟨by rw [HQ.out]; first | done | rfl, (Ex.refl _ : Ex _ _)⟩
  case rest =>
   obtain ⟨rfl, HXd⟩ := hcut
   obtain ⟨d0, d1, d2, d3, d4, d5, d6⟩ := (HP.out.below HXd.out).all
   simp only at d0 d1 d2 d3 d4 d5 d6
   clear c0 c1 c2 c3 c4 c5 c6
   go_wp2_with fail
   go_loopw [11, 9] (fun iv ov wr => ∃ i : Nat, ∃ u : Bool, i ≤ l.length ∧ iv = .int .i64 i ∧ ov = .bool u ∧ Hid ((B && (l.take i).all Pd.form) = u) ∧ Hid (Ex W wr)) (fun iv ov wr => l.length - (intOf iv).toNat)
   case atStart => exact ⟨0, B, by omega, rfl, rfl, (by simp : (B && (l.take 0).all Pd.form) = B), HXd⟩
   case round =>
    obtain ⟨i, u, hi, rfl, rfl, HU, HXr⟩ := hrel
    obtain ⟨g0, g1, g2, g3, g4, g5, g6⟩ := (HP.out.below HXr.out).all
    simp only at g0 g1 g2 g3 g4 g5 g6
    by_cases hlt : i < l.length
    ·have hti : (i : Int) < (l.length : Int) := by omega
     have hLr := Pd.Lay.below _ HLw.out (HXW.out.trans HXr.out)
     obtain ⟨b, off, x, hpp, hbg, hLk, e0, e1, e2, e3, e4, e5, e6⟩ := hLr.kid hlt
     simp only at hpp
     obtain ⟨k, hk⟩ : ∃ k, l[i] = k := ⟨_, rfl⟩
     rw [hk] at hLk
     have hkm2 : k ∈ l := by rw [← hk]; exact List.getElem_mem hlt
     obtain ⟨f, hf⟩ : ∃ f, Pd.form k = f := ⟨_, rfl⟩
     have hnx : (B && (l.take (i + 1)).all Pd.form) = (u && f) := by
      rw [List.take_add_one, List.getElem?_eq_getElem hlt, hk, ← HU.out, ← hf]
      simp [Bool.and_assoc]
     have HC : Hid (Calls Try.prog 53 #[pvv x] wr fun e w' => e = .returned (.bool f) ∧ Ex wr w') := HIH.out k hkm2 x wr hLk (HFK.out k hkm2) f hf
     subst hpp
     clear hLr hLk hk hbg hkm2 hf
     cases u with
     | false =>
      have HN : Hid ((B && (l.take (i + 1)).all Pd.form) = false) := (by rw [hnx]; rfl : _ = false)
      clear hnx HC
      go_wp2_with fail
      go_roundw
      case rel => exact ⟨i + 1, false, by omega, by go_num, rfl, HN, HXr⟩
      case measure => simp [intOf]; omega
     | true =>
      have HN : Hid ((B && (l.take (i + 1)).all Pd.form) = f) := (by rw [hnx]; rfl : _ = f)
      clear hnx
      go_wp2_with fail
      go_at_call 53
      refine Calls.mono HC.out ?_
      rintro e w2 ⟨rfl, hx2⟩
      have HX2 : Hid (Ex W w2) := (HXr.out.trans hx2 : Ex W w2)
      clear hx2 HC
      go_wp2_with fail
      go_roundw
      case rel => exact ⟨i + 1, f, by omega, by go_num, rfl, HN, HX2⟩
      case measure => simp [intOf]; omega
    ·have hti : ¬ (i : Int) < (l.length : Int) := by omega
     have HE : Hid (u = o) := (by
      have h := HU.out
      rw [List.take_of_length_le (by omega), HO.out] at h
      exact h.symm : u = o)
     go_wp2_with fail
     go_ret
     exact ⟨by rw [← HE.out]; rfl, HXW.out.trans HXr.out⟩
end Go.Proofs.Ytibnhjfeepdddaa
