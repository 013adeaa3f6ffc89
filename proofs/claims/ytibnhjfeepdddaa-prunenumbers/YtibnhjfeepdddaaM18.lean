/-
  The landed rightText, bare, rightSet, rightPart, rightParts, Right.
-/
import Derived.Test.YtibnhjfeepdddaaM16
import Derived.Test.YtibnhjfeepdddaaM17
import Derived.RegionTactic
import Derived.BigRegion
namespace Go.Proofs.Ytibnhjfeepdddaa
open Go.RowKit
set_option linter.unusedVariables false
set_option linter.unusedSimpArgs false
theorem natbeq (n : Nat) : ((n : Int) == 0) = decide (n = 0) := by
 by_cases h : n = 0
 ·subst h; rfl
 ·rw [decide_eq_false h]; exact beq_eq_false_iff_ne.2 (by omega)
theorem rtext_is (s : List UInt8) (w : World) (hs : s.length ≤ maxLen) (o : Bool) (ho : decide (s.length ≤ 40) = o) : Calls Try.prog 81 #[.string (str s)] w fun e w' => e = .returned (.bool o) ∧ w' = w := by
 unfold maxLen at hs
 have zs : (str s).size = s.length := str_size s
 have t1 : decide ((s.length : Int) ≤ 40) = o := by rw [← ho]; congr 1; exact propext (by omega)
 go_enter Try.func81, Try.ntmps81
 go_wp2_with fail
 go_ret
 exact ⟨by first | rfl | simp, rfl⟩
def bareB (v : PV) : Bool := decide (v.col = [] ∧ v.n = 0 ∧ v.m = 0 ∧ v.s = [] ∧ v.set.2.1 = 0 ∧ v.kids.2.1 = 0)
set_option maxHeartbeats 4000000 in
set_option maxRecDepth 100000 in
theorem bare_is (v : PV) (w : World) (o : Bool) (ho : bareB v = o) (h1 : v.set.2.1 ≤ maxLen) (h2 : v.kids.2.1 ≤ maxLen) : Calls Try.prog 83 #[pvv v] w fun e w' => e = .returned (.bool o) ∧ Ex w w' := by
 obtain ⟨vk, vcol, vn, vm, vs, ⟨sa, sn, sc⟩, ⟨ka, kn, kc⟩⟩ := v
 have HXW : Hid (Ex w (w.alloc (pb ⟨vk, vcol, vn, vm, vs, ⟨sa, sn, sc⟩, ⟨ka, kn, kc⟩⟩))) := ((Below.refl _ _).alloc (Nat.le_refl _) _ : Ex w _)
 unfold bareB at ho
 simp only at ho h1 h2
 unfold maxLen at h1 h2
 have HO : Hid (decide (vcol = [] ∧ vn = 0 ∧ vm = 0 ∧ vs = [] ∧ sn = 0 ∧ kn = 0) = o) := ho
 clear ho
 have z1 := str_toList vcol
 have z2 := str_toList vs
 unfold pvv
 simp only [sv]
 go_enter Try.func83, Try.ntmps83
 go_wp2_with fail
 all_goals go_ret
 all_goals refine ⟨?_, (Below.refl _ _).alloc (Nat.le_refl _) _⟩
 all_goals rw [← HO.out]
 all_goals first | (simp_all; done) | (simp_all [natbeq]; done)
namespace T
def le (x y : B) : Bool := lt x y || x == y
theorem le_not {x y : B} : le x y = true ↔ lt y x = false := by
 unfold le
 constructor
 ·intro h
  rcases Bool.or_eq_true_iff.1 h with h | h
  ·exact lt_asymm h
  ·have e : x = y := by simpa using h
   rw [e]; exact lt_irrefl y
 ·intro h
  rcases ge_iff h with rfl | h
  ·simp
  ·simp [h]
theorem not_le {x y : B} (h : le x y = false) : lt y x = true := by
 cases e : lt y x with
 | true => rfl
 | false => rw [le_not.2 e] at h; cases h
end T
theorem T.rise_more {l : List (List UInt8)} {i : Nat} {s : List UInt8} (h : T.Rise (l.take i)) (hs : l[i]? = some s) (ht : i = 0 ∨ ∃ k t, k + 1 = i ∧ l[k]? = some t ∧ T.lt t s = true) : T.Rise (l.take (i + 1)) := by
 rw [List.take_add_one, hs]
 show List.Pairwise _ (l.take i ++ [s])
 rw [List.pairwise_append]
 refine ⟨h, by simp, ?_⟩
 intro x hx y hy
 rw [List.mem_singleton] at hy
 subst hy
 rcases ht with rfl | ⟨k, t, rfl, ht, hts⟩
 ·simp at hx
 ·obtain ⟨j, hj⟩ := List.getElem?_of_mem hx
  have hjl := (List.getElem?_eq_some_iff.1 hj).1
  simp at hjl
  by_cases hjk : j = k
  ·subst hjk
   rw [List.getElem?_take, if_pos (by omega), ht] at hj
   cases hj
   exact hts
  ·refine T.lt_trans (T.rise_at h hj (j := k) (y := t) ?_ (by omega)) hts
   rw [List.getElem?_take, if_pos (by omega), ht]
theorem rset_long {l : List (List UInt8)} {i : Nat} {s : List UInt8} (h : l[i]? = some s) (hs : decide (s.length ≤ 40) = false) : (decide (l.length ≤ 8) && T.adj l && l.all (fun s => decide (s.length ≤ 40))) = false := by
 have : l.all (fun s => decide (s.length ≤ 40)) = false := by
  rw [List.all_eq_false]
  exact ⟨s, List.mem_of_getElem? h, by rw [hs]; simp⟩
 rw [this, Bool.and_false]
theorem rset_fall {l : List (List UInt8)} {k : Nat} {s t : List UInt8} (ht : l[k]? = some t) (h : l[k + 1]? = some s) (hs : T.le s t = true) : (decide (l.length ≤ 8) && T.adj l && l.all (fun s => decide (s.length ≤ 40))) = false := by
 have : T.adj l = false := by
  cases ha : T.adj l with
  | false => rfl
  | true =>
   have h1 := T.rise_at ((T.adj_iff l).1 ha) ht h (by omega)
   rw [T.le_not.1 hs] at h1
   cases h1
 rw [this]
 simp
set_option maxHeartbeats 4000000 in
set_option maxRecDepth 100000 in
theorem rset_is (a : Option Addr) (n cap : Nat) (l : List (List UInt8)) (w : World) (hn : n = l.length) (hB : Rd st w a cap l) (hl : ∀ s ∈ l, s.length ≤ 1000) (o : Bool) (ho : (decide (l.length ≤ 8) && T.adj l && l.all (fun s => decide (s.length ≤ 40))) = o) :
  Calls Try.prog 82 #[.slice a n cap] w fun e w' => e = .returned (.bool o) ∧ w' = w := by
 subst hn
 have h1 := hB.1
 have h2 := hB.2.1
 unfold maxLen at h2
 have HB : Hid (Rd st w a cap l) := hB
 have HLl : Hid (∀ s ∈ l, s.length ≤ 1000) := hl
 have HO : Hid ((decide (l.length ≤ 8) && T.adj l && l.all (fun s => decide (s.length ≤ 40))) = o) := ho
 clear hB hl ho
 go_enter Try.func82, Try.ntmps82
 by_cases h8 : ¬ l.length ≤ 8
 ·have t1 : decide (8 < (l.length : Int)) = true := by simp; omega
  have HF : Hid (o = false) := (by rw [← HO.out]; simp [h8] : o = false)
  go_wp2_with fail
  go_ret
  exact ⟨by rw [HF.out]; rfl, rfl⟩
 have t1 : decide (8 < (l.length : Int)) = false := by simp; omega
 go_wp2_with fail
 go_loopw [10, 3, 4] (fun iv jv sv wr => ∃ i : Nat, i ≤ l.length ∧ iv = .int .i64 i ∧ Hid (T.adj (l.take i) = true ∧ (∀ s ∈ l.take i, s.length ≤ 40)) ∧ Hid (wr = w)) (fun iv jv sv wr => l.length - (intOf iv).toNat)
 case atStart => exact ⟨0, by omega, rfl, (by simp [T.adj] : T.adj (l.take 0) = true ∧ (∀ s ∈ l.take 0, s.length ≤ 40)), (rfl : w = w)⟩
 case round =>
  obtain ⟨i, hi, rfl, HA, HW⟩ := hrel
  obtain rfl := HW.out
  clear HW
  by_cases hlt : i < l.length
  ·have hti : (i : Int) < (l.length : Int) := by omega
   obtain ⟨b, off, hpp, e0⟩ := HB.out.at hlt
   obtain ⟨s, hs⟩ : ∃ s, l[i] = s := ⟨_, rfl⟩
   rw [hs] at e0
   have HS : Hid (l[i]? = some s) := (by rw [List.getElem?_eq_getElem hlt, hs] : l[i]? = some s)
   have HNX : Hid (l.take (i + 1) = l.take i ++ [s]) := (by rw [List.take_add_one, HS.out]; rfl : l.take (i + 1) = l.take i ++ [s])
   have hsl : s.length ≤ maxLen := by have := HLl.out s (by rw [← hs]; exact List.getElem_mem hlt); unfold maxLen; omega
   have HSL : Hid (s.length ≤ maxLen) := hsl
   obtain ⟨c, hc⟩ : ∃ c, decide (s.length ≤ 40) = c := ⟨_, rfl⟩
   have HSC : Hid (decide (s.length ≤ 40) = c) := hc
   clear hs hsl hc
   by_cases hi0 : i = 0
   ·have hi1 : i ≤ 0 := by omega
    have HI0 : Hid (i = 0) := hi0
    have t0 : decide ((0 : Int) < (i : Int)) = false := by simp; omega
    have t00 : decide (0 < i) = false := by simp; omega
    subst hpp
    clear hi0
    go_wp2_with fail
    go_at_call 81
    refine Calls.mono (rtext_is s _ HSL.out c HSC.out) ?_
    rintro e w2 ⟨rfl, hw2⟩
    subst hw2
    cases c with
    | false =>
     have HF : Hid (o = false) := (by rw [← HO.out]; exact rset_long HS.out HSC.out : o = false)
     go_wp2_with fail
     go_ret
     exact ⟨by rw [HF.out]; rfl, rfl⟩
    | true =>
     have HA2 : Hid (T.adj (l.take (i + 1)) = true ∧ (∀ s ∈ l.take (i + 1), s.length ≤ 40)) := (by
      rw [HNX.out, HI0.out]
      have := HSC.out
      simp [T.adj] at this ⊢
      exact this : T.adj (l.take (i + 1)) = true ∧ (∀ s ∈ l.take (i + 1), s.length ≤ 40))
     go_wp2_with fail
     go_roundw
     case rel => exact ⟨i + 1, by omega, by go_num, HA2, trivial⟩
     case measure => simp [intOf]; omega
   ·obtain ⟨k, hk⟩ : ∃ k, k + 1 = i := ⟨i - 1, by omega⟩
    have HKI : Hid (k + 1 = i) := hk
    obtain ⟨b', off', hpp', e1⟩ := HB.out.at (k := k) (by omega)
    rw [hpp] at hpp'
    simp only [Option.some.injEq, Addr.mk.injEq, and_true] at hpp'
    obtain ⟨rfl, rfl⟩ := hpp'
    obtain ⟨t, ht⟩ : ∃ t, l[k] = t := ⟨_, rfl⟩
    rw [ht] at e1
    have HT : Hid (l[k]? = some t) := (by rw [List.getElem?_eq_getElem (by omega), ht] : l[k]? = some t)
    have tk : (i : Int) - 1 = (k : Int) := by omega
    have tk2 : (k : Int) < (l.length : Int) := by omega
    have t0 : decide ((0 : Int) < (i : Int)) = true := by simp; omega
    have t00 : decide (0 < i) = true := by simp; omega
    obtain ⟨f, hf⟩ : ∃ f, T.le s t = f := ⟨_, rfl⟩
    have HLE : Hid (T.le s t = f) := hf
    have hle : (Op.bytesLess s t || s == t) = f := hf
    have zs := str_toList s
    have zt := str_toList t
    subst hpp
    clear ht hf hk
    go_wp2_with fail
    go_at_call 81
    refine Calls.mono (rtext_is s _ HSL.out c HSC.out) ?_
    rintro e w2 ⟨rfl, hw2⟩
    subst hw2
    cases c with
    | false =>
     have HF : Hid (o = false) := (by rw [← HO.out]; exact rset_long HS.out HSC.out : o = false)
     go_wp2_with fail
     go_ret
     exact ⟨by rw [HF.out]; rfl, rfl⟩
    | true =>
     cases f with
     | true =>
      have HF : Hid (o = false) := (by
       rw [← HO.out]
       exact rset_fall HT.out (by rw [HKI.out]; exact HS.out) HLE.out : o = false)
      go_wp2_with fail
      go_ret
      exact ⟨by rw [HF.out]; rfl, rfl⟩
     | false =>
      have HA2 : Hid (T.adj (l.take (i + 1)) = true ∧ (∀ s ∈ l.take (i + 1), s.length ≤ 40)) := (by
       refine ⟨?_, ?_⟩
       ·rw [T.adj_iff]
        refine T.rise_more ((T.adj_iff _).1 HA.out.1) HS.out (.inr ⟨k, t, HKI.out, HT.out, T.not_le HLE.out⟩)
       ·intro x hx
        rw [HNX.out] at hx
        rcases List.mem_append.1 hx with hx | hx
        ·exact HA.out.2 x hx
        ·rw [List.mem_singleton] at hx; subst hx; exact of_decide_eq_true HSC.out : T.adj (l.take (i + 1)) = true ∧ (∀ s ∈ l.take (i + 1), s.length ≤ 40))
      go_wp2_with fail
      go_roundw
      case rel => exact ⟨i + 1, by omega, by go_num, HA2, trivial⟩
      case measure => simp [intOf]; omega
  ·have hti : ¬ (i : Int) < (l.length : Int) := by omega
   have hil : l.take i = l := List.take_of_length_le (by omega)
   have HT : Hid (o = true) := (by
    rw [← HO.out]
    have h1 := HA.out
    rw [hil] at h1
    have h8' : l.length ≤ 8 := by omega
    simp only [h1.1, h8', decide_true, Bool.true_and, List.all_eq_true, decide_eq_true_eq]
    exact h1.2 : o = true)
   go_wp2_with fail
   go_ret
   exact ⟨by rw [HT.out]; rfl, rfl⟩
/-- What the callees bear. -/
structure HdFit (h : Hd) : Prop where
 k : In64 h.k
 n : In64 h.n
 m : In64 h.m
 col : h.col.length ≤ 1000
 s : h.s.length ≤ 1000
 set : h.set.length ≤ 1000
 each : ∀ t ∈ h.set, t.length ≤ 1000
theorem HdFit.colM {h : Hd} (H : HdFit h) : h.col.length ≤ maxLen := by have := H.col; unfold maxLen; omega
theorem HdFit.sM {h : Hd} (H : HdFit h) : h.s.length ≤ maxLen := by have := H.s; unfold maxLen; omega
theorem part_seven {vn vm : Int} {vcol vs : List UInt8} {set : List (List UInt8)} {kn : Nat} (h : Rw.name vcol = true) : Pd.part ⟨7, vcol, vn, vm, vs, set⟩ kn = ((decide (set.length ≤ 8) && T.adj set && set.all (fun s => decide (s.length ≤ 40))) && decide (vn = 0 ∧ vm = 0 ∧ vs = [] ∧ kn = 0)) := by
 simp only [Pd.part, h]
 simp only [show ¬ ((7 : Int) = 1 ∨ (7 : Int) = 2) from by decide, show ¬ (7 : Int) = 3 from by decide, show ¬ ((7 : Int) = 4 ∨ (7 : Int) = 5) from by decide, show ¬ ((7 : Int) = 6 ∨ (7 : Int) = 8) from by decide, if_false, if_true, Bool.true_and]
 rw [Bool.eq_iff_iff]
 simp only [Bool.and_eq_true, decide_eq_true_eq]
 constructor
 ·rintro ⟨⟨⟨a, b, c, d, e⟩, f⟩, g⟩; exact ⟨⟨⟨e, f⟩, g⟩, a, b, c, d⟩
 ·rintro ⟨⟨⟨e, f⟩, g⟩, a, b, c, d⟩; exact ⟨⟨⟨a, b, c, d, e⟩, f⟩, g⟩
set_option maxHeartbeats 8000000 in
set_option maxRecDepth 100000 in
theorem rpart_is {B : Nat → Prop} (h : Hd) (n : Nat) (v : PV) (w : World) (hH : HdOk B w v h) (hF : HdFit h) (hn : v.kids.2.1 = n) (hm : n ≤ maxLen) (o : Bool) (ho : Pd.part h n = o) :
  Calls Try.prog 58 #[pvv v] w fun e w' => e = .returned (.bool o) ∧ Ex w w' := by
 obtain ⟨vk, vcol, vn, vm, vs, ⟨sa, sn, sc⟩, ⟨ka, kn, kc⟩⟩ := v
 obtain ⟨k, col, hn', m, s, set⟩ := h
 obtain ⟨⟨rfl, rfl, rfl, rfl, rfl⟩, hsn, hB, _⟩ := hH
 simp only at hsn hB hn
 subst hn
 subst hsn
 have h1 := hB.1
 have h2 := hB.2.1
 have HM : Hid (kn ≤ maxLen) := hm
 have HS : Hid (set.length ≤ maxLen) := (by have := hF.set; simp only at this; unfold maxLen; omega : set.length ≤ maxLen)
 have HO : Hid (Pd.part ⟨vk, vcol, vn, vm, vs, set⟩ kn = o) := ho
 have HF : Hid (HdFit ⟨vk, vcol, vn, vm, vs, set⟩) := hF
 have HB : Hid (Rd st w sa sc set) := hB
 unfold maxLen at h2 hm
 clear ho hF hB
 have z1 := str_toList vcol
 have z2 := str_toList vs
 unfold pvv
 simp only [sv]
 go_enter Try.func58, Try.ntmps58
 go_wp2_with fail
 go_region
 obtain ⟨nm, hnm⟩ : ∃ nm, Rw.name vcol = nm := ⟨_, rfl⟩
 have HNM : Hid (Rw.name vcol = nm) := hnm
 clear hnm
 by_cases hk1 : vk = 1
 ·subst hk1
  obtain ⟨bo, hbo⟩ : ∃ bo, bareB ⟨1, vcol, vn, vm, vs, (sa, set.length, sc), (none, 0, 0)⟩ = bo := ⟨_, rfl⟩
  have HBO : Hid (bareB ⟨1, vcol, vn, vm, vs, (sa, set.length, sc), (none, 0, 0)⟩ = bo) := hbo
  clear hbo
  go_wp2_with fail
  go_at_call 83
  refine Calls.mono (bare_is ⟨1, vcol, vn, vm, vs, (sa, set.length, sc), (none, 0, 0)⟩ _ bo HBO.out HS.out (Nat.zero_le _)) ?_
  rintro e w2 ⟨rfl, hx⟩
  have HX2 : Hid (Ex w w2) := (Ex.trans (Below.drew (Below.alloc (Below.alloc (Below.refl _ _) (Nat.le_refl _) _) (by simp) _)) hx : Ex w w2)
  clear hx
  go_wp2_with fail
  go_ret
  refine ⟨?_, HX2.out⟩
  rw [← HO.out, ← HBO.out]
  simp [Pd.part, bareB]
 by_cases hk2 : vk = 2
 ·subst hk2
  obtain ⟨bo, hbo⟩ : ∃ bo, bareB ⟨2, vcol, vn, vm, vs, (sa, set.length, sc), (none, 0, 0)⟩ = bo := ⟨_, rfl⟩
  have HBO : Hid (bareB ⟨2, vcol, vn, vm, vs, (sa, set.length, sc), (none, 0, 0)⟩ = bo) := hbo
  clear hbo
  go_wp2_with fail
  go_at_call 83
  refine Calls.mono (bare_is ⟨2, vcol, vn, vm, vs, (sa, set.length, sc), (none, 0, 0)⟩ _ bo HBO.out HS.out (Nat.zero_le _)) ?_
  rintro e w2 ⟨rfl, hx⟩
  have HX2 : Hid (Ex w w2) := (Ex.trans (Below.drew (Below.alloc (Below.alloc (Below.refl _ _) (Nat.le_refl _) _) (by simp) _)) hx : Ex w w2)
  clear hx
  go_wp2_with fail
  go_ret
  refine ⟨?_, HX2.out⟩
  rw [← HO.out, ← HBO.out]
  simp [Pd.part, bareB]
 by_cases hk3 : vk = 3
 ·subst hk3
  by_cases hkn : kn = 1
  ·subst hkn
   obtain ⟨bo, hbo⟩ : ∃ bo, bareB ⟨3, vcol, vn, vm, vs, (sa, set.length, sc), (none, 0, 0)⟩ = bo := ⟨_, rfl⟩
   have HBO : Hid (bareB ⟨3, vcol, vn, vm, vs, (sa, set.length, sc), (none, 0, 0)⟩ = bo) := hbo
   clear hbo
   go_wp2_with fail
   go_at_call 83
   refine Calls.mono (bare_is ⟨3, vcol, vn, vm, vs, (sa, set.length, sc), (none, 0, 0)⟩ _ bo HBO.out HS.out (Nat.zero_le _)) ?_
   rintro e w2 ⟨rfl, hx⟩
   have HX2 : Hid (Ex w w2) := (Ex.trans (Below.drew (Below.alloc (Below.alloc (Below.refl _ _) (Nat.le_refl _) _) (by simp) _)) hx : Ex w w2)
   clear hx
   go_wp2_with fail
   go_ret
   refine ⟨?_, HX2.out⟩
   rw [← HO.out, ← HBO.out]
   simp [Pd.part, bareB]
  ·have tk : ((kn : Int) == 1) = false := beq_eq_false_iff_ne.2 (by omega)
   go_wp2_with fail
   go_ret
   refine ⟨?_, Below.drew (Below.alloc (Below.alloc (Below.refl _ _) (Nat.le_refl _) _) (by simp) _)⟩
   rw [← HO.out]
   simp [Pd.part, hkn]
 by_cases hk4 : vk = 4
 ·subst hk4
  go_wp2_with fail
  go_at_call 80
  refine Calls.mono (sname_is vcol _ HF.out.colM nm HNM.out) ?_
  rintro e w1 ⟨rfl, hw1⟩
  subst hw1
  cases nm with
  | false =>
   go_wp2_with fail
   go_ret
   refine ⟨?_, Below.drew (Below.alloc (Below.alloc (Below.refl _ _) (Nat.le_refl _) _) (by simp) _)⟩
   rw [← HO.out]
   simp [Pd.part, HNM.out]
  | true =>
   obtain ⟨bo, hbo⟩ : ∃ bo, bareB ⟨4, [], 0, vm, vs, (sa, set.length, sc), (ka, kn, kc)⟩ = bo := ⟨_, rfl⟩
   have HBO : Hid (bareB ⟨4, [], 0, vm, vs, (sa, set.length, sc), (ka, kn, kc)⟩ = bo) := hbo
   clear hbo
   go_wp2_with fail
   go_at_call 83
   refine Calls.mono (bare_is ⟨4, [], 0, vm, vs, (sa, set.length, sc), (ka, kn, kc)⟩ _ bo HBO.out HS.out HM.out) ?_
   rintro e w2 ⟨rfl, hx⟩
   have HX2 : Hid (Ex w w2) := (Ex.trans (Below.drew (Below.alloc (Below.alloc (Below.refl _ _) (Nat.le_refl _) _) (by simp) _)) hx : Ex w w2)
   clear hx
   go_wp2_with fail
   go_ret
   refine ⟨?_, HX2.out⟩
   rw [← HO.out, ← HBO.out]
   simp [Pd.part, bareB, HNM.out]
 by_cases hk5 : vk = 5
 ·subst hk5
  go_wp2_with fail
  go_at_call 80
  refine Calls.mono (sname_is vcol _ HF.out.colM nm HNM.out) ?_
  rintro e w1 ⟨rfl, hw1⟩
  subst hw1
  cases nm with
  | false =>
   go_wp2_with fail
   go_ret
   refine ⟨?_, Below.drew (Below.alloc (Below.alloc (Below.refl _ _) (Nat.le_refl _) _) (by simp) _)⟩
   rw [← HO.out]
   simp [Pd.part, HNM.out]
  | true =>
   obtain ⟨bo, hbo⟩ : ∃ bo, bareB ⟨5, [], 0, vm, vs, (sa, set.length, sc), (ka, kn, kc)⟩ = bo := ⟨_, rfl⟩
   have HBO : Hid (bareB ⟨5, [], 0, vm, vs, (sa, set.length, sc), (ka, kn, kc)⟩ = bo) := hbo
   clear hbo
   go_wp2_with fail
   go_at_call 83
   refine Calls.mono (bare_is ⟨5, [], 0, vm, vs, (sa, set.length, sc), (ka, kn, kc)⟩ _ bo HBO.out HS.out HM.out) ?_
   rintro e w2 ⟨rfl, hx⟩
   have HX2 : Hid (Ex w w2) := (Ex.trans (Below.drew (Below.alloc (Below.alloc (Below.refl _ _) (Nat.le_refl _) _) (by simp) _)) hx : Ex w w2)
   clear hx
   go_wp2_with fail
   go_ret
   refine ⟨?_, HX2.out⟩
   rw [← HO.out, ← HBO.out]
   simp [Pd.part, bareB, HNM.out]
 by_cases hk6 : vk = 6
 ·subst hk6
  go_wp2_with fail
  go_at_call 80
  refine Calls.mono (sname_is vcol _ HF.out.colM nm HNM.out) ?_
  rintro e w1 ⟨rfl, hw1⟩
  subst hw1
  cases nm with
  | false =>
   go_wp2_with fail
   go_ret
   refine ⟨?_, Below.drew (Below.alloc (Below.alloc (Below.refl _ _) (Nat.le_refl _) _) (by simp) _)⟩
   rw [← HO.out]
   simp [Pd.part, HNM.out]
  | true =>
   obtain ⟨tx, htx⟩ : ∃ tx, decide (vs.length ≤ 40) = tx := ⟨_, rfl⟩
   have HTX : Hid (decide (vs.length ≤ 40) = tx) := htx
   clear htx
   go_wp2_with fail
   go_at_call 81
   refine Calls.mono (rtext_is vs _ HF.out.sM tx HTX.out) ?_
   rintro e w1 ⟨rfl, hw1⟩
   subst hw1
   cases tx with
   | false =>
    have htx : ¬ vs.length ≤ 40 := of_decide_eq_false HTX.out
    have HTN : Hid (¬ vs.length ≤ 40) := htx
    clear htx
    go_wp2_with fail
    go_ret
    refine ⟨?_, Below.drew (Below.alloc (Below.alloc (Below.refl _ _) (Nat.le_refl _) _) (by simp) _)⟩
    rw [← HO.out]
    simp [Pd.part, HNM.out, HTN.out]
   | true =>
    have HTN : Hid (vs.length ≤ 40) := (of_decide_eq_true HTX.out : vs.length ≤ 40)
    obtain ⟨bo, hbo⟩ : ∃ bo, bareB ⟨6, [], vn, vm, [], (sa, set.length, sc), (ka, kn, kc)⟩ = bo := ⟨_, rfl⟩
    have HBO : Hid (bareB ⟨6, [], vn, vm, [], (sa, set.length, sc), (ka, kn, kc)⟩ = bo) := hbo
    clear hbo
    go_wp2_with fail
    go_at_call 83
    refine Calls.mono (bare_is ⟨6, [], vn, vm, [], (sa, set.length, sc), (ka, kn, kc)⟩ _ bo HBO.out HS.out HM.out) ?_
    rintro e w2 ⟨rfl, hx⟩
    have HX2 : Hid (Ex w w2) := (Ex.trans (Below.drew (Below.alloc (Below.alloc (Below.refl _ _) (Nat.le_refl _) _) (by simp) _)) hx : Ex w w2)
    clear hx
    go_wp2_with fail
    go_ret
    refine ⟨?_, HX2.out⟩
    rw [← HO.out, ← HBO.out]
    simp [Pd.part, bareB, HNM.out, HTN.out]
 by_cases hk8 : vk = 8
 ·subst hk8
  go_wp2_with fail
  go_at_call 80
  refine Calls.mono (sname_is vcol _ HF.out.colM nm HNM.out) ?_
  rintro e w1 ⟨rfl, hw1⟩
  subst hw1
  cases nm with
  | false =>
   go_wp2_with fail
   go_ret
   refine ⟨?_, Below.drew (Below.alloc (Below.alloc (Below.refl _ _) (Nat.le_refl _) _) (by simp) _)⟩
   rw [← HO.out]
   simp [Pd.part, HNM.out]
  | true =>
   obtain ⟨tx, htx⟩ : ∃ tx, decide (vs.length ≤ 40) = tx := ⟨_, rfl⟩
   have HTX : Hid (decide (vs.length ≤ 40) = tx) := htx
   clear htx
   go_wp2_with fail
   go_at_call 81
   refine Calls.mono (rtext_is vs _ HF.out.sM tx HTX.out) ?_
   rintro e w1 ⟨rfl, hw1⟩
   subst hw1
   cases tx with
   | false =>
    have htx : ¬ vs.length ≤ 40 := of_decide_eq_false HTX.out
    have HTN : Hid (¬ vs.length ≤ 40) := htx
    clear htx
    go_wp2_with fail
    go_ret
    refine ⟨?_, Below.drew (Below.alloc (Below.alloc (Below.refl _ _) (Nat.le_refl _) _) (by simp) _)⟩
    rw [← HO.out]
    simp [Pd.part, HNM.out, HTN.out]
   | true =>
    have HTN : Hid (vs.length ≤ 40) := (of_decide_eq_true HTX.out : vs.length ≤ 40)
    obtain ⟨bo, hbo⟩ : ∃ bo, bareB ⟨8, [], vn, vm, [], (sa, set.length, sc), (ka, kn, kc)⟩ = bo := ⟨_, rfl⟩
    have HBO : Hid (bareB ⟨8, [], vn, vm, [], (sa, set.length, sc), (ka, kn, kc)⟩ = bo) := hbo
    clear hbo
    go_wp2_with fail
    go_at_call 83
    refine Calls.mono (bare_is ⟨8, [], vn, vm, [], (sa, set.length, sc), (ka, kn, kc)⟩ _ bo HBO.out HS.out HM.out) ?_
    rintro e w2 ⟨rfl, hx⟩
    have HX2 : Hid (Ex w w2) := (Ex.trans (Below.drew (Below.alloc (Below.alloc (Below.refl _ _) (Nat.le_refl _) _) (by simp) _)) hx : Ex w w2)
    clear hx
    go_wp2_with fail
    go_ret
    refine ⟨?_, HX2.out⟩
    rw [← HO.out, ← HBO.out]
    simp [Pd.part, bareB, HNM.out, HTN.out]
 by_cases hk7 : vk = 7
 ·subst hk7
  go_wp2_with fail
  go_at_call 80
  refine Calls.mono (sname_is vcol _ HF.out.colM nm HNM.out) ?_
  rintro e w1 ⟨rfl, hw1⟩
  subst hw1
  cases nm with
  | false =>
   go_wp2_with fail
   go_ret
   refine ⟨?_, Below.drew (Below.alloc (Below.alloc (Below.refl _ _) (Nat.le_refl _) _) (by simp) _)⟩
   rw [← HO.out]
   simp [Pd.part, HNM.out]
  | true =>
   obtain ⟨tx, htx⟩ : ∃ tx, (decide (set.length ≤ 8) && T.adj set && set.all (fun s => decide (s.length ≤ 40))) = tx := ⟨_, rfl⟩
   have HTX : Hid ((decide (set.length ≤ 8) && T.adj set && set.all (fun s => decide (s.length ≤ 40))) = tx) := htx
   clear htx
   go_wp2_with fail
   go_at_call 82
   refine Calls.mono (rset_is sa _ sc set _ rfl (HB.out.below (Below.drew (Below.alloc (Below.alloc (Below.refl _ _) (Nat.le_refl _) _) (by simp) _))) HF.out.each tx HTX.out) ?_
   rintro e w1 ⟨rfl, hw1⟩
   subst hw1
   cases tx with
   | false =>
    go_wp2_with fail
    go_ret
    refine ⟨?_, Below.drew (Below.alloc (Below.alloc (Below.refl _ _) (Nat.le_refl _) _) (by simp) _)⟩
    rw [← HO.out]
    rw [part_seven HNM.out, HTX.out]
    simp
   | true =>
    obtain ⟨bo, hbo⟩ : ∃ bo, bareB ⟨7, [], vn, vm, vs, (none, 0, 0), (ka, kn, kc)⟩ = bo := ⟨_, rfl⟩
    have HBO : Hid (bareB ⟨7, [], vn, vm, vs, (none, 0, 0), (ka, kn, kc)⟩ = bo) := hbo
    clear hbo
    go_wp2_with fail
    go_at_call 83
    refine Calls.mono (bare_is ⟨7, [], vn, vm, vs, (none, 0, 0), (ka, kn, kc)⟩ _ bo HBO.out (Nat.zero_le _) HM.out) ?_
    rintro e w2 ⟨rfl, hx⟩
    have HX2 : Hid (Ex w w2) := (Ex.trans (Below.drew (Below.alloc (Below.alloc (Below.refl _ _) (Nat.le_refl _) _) (by simp) _)) hx : Ex w w2)
    clear hx
    go_wp2_with fail
    go_ret
    refine ⟨?_, HX2.out⟩
    rw [← HO.out, ← HBO.out]
    rw [part_seven HNM.out, HTX.out]
    simp [bareB]
 by_cases hk9 : vk = 9
 ·subst hk9
  go_wp2_with fail
  go_at_call 80
  refine Calls.mono (sname_is vcol _ HF.out.colM nm HNM.out) ?_
  rintro e w1 ⟨rfl, hw1⟩
  subst hw1
  cases nm with
  | false =>
   go_wp2_with fail
   go_ret
   refine ⟨?_, Below.drew (Below.alloc (Below.alloc (Below.refl _ _) (Nat.le_refl _) _) (by simp) _)⟩
   rw [← HO.out]
   simp [Pd.part, HNM.out]
  | true =>
   obtain ⟨bo, hbo⟩ : ∃ bo, bareB ⟨9, [], vn, vm, vs, (sa, set.length, sc), (ka, kn, kc)⟩ = bo := ⟨_, rfl⟩
   have HBO : Hid (bareB ⟨9, [], vn, vm, vs, (sa, set.length, sc), (ka, kn, kc)⟩ = bo) := hbo
   clear hbo
   go_wp2_with fail
   go_at_call 83
   refine Calls.mono (bare_is ⟨9, [], vn, vm, vs, (sa, set.length, sc), (ka, kn, kc)⟩ _ bo HBO.out HS.out HM.out) ?_
   rintro e w2 ⟨rfl, hx⟩
   have HX2 : Hid (Ex w w2) := (Ex.trans (Below.drew (Below.alloc (Below.alloc (Below.refl _ _) (Nat.le_refl _) _) (by simp) _)) hx : Ex w w2)
   clear hx
   go_wp2_with fail
   go_ret
   refine ⟨?_, HX2.out⟩
   rw [← HO.out, ← HBO.out]
   simp [Pd.part, bareB, HNM.out]
 by_cases hk10 : vk = 10
 ·subst hk10
  obtain ⟨bo, hbo⟩ : ∃ bo, bareB ⟨10, vcol, 0, 0, vs, (sa, set.length, sc), (ka, kn, kc)⟩ = bo := ⟨_, rfl⟩
  have HBO : Hid (bareB ⟨10, vcol, 0, 0, vs, (sa, set.length, sc), (ka, kn, kc)⟩ = bo) := hbo
  clear hbo
  go_wp2_with fail
  go_at_call 83
  refine Calls.mono (bare_is ⟨10, vcol, 0, 0, vs, (sa, set.length, sc), (ka, kn, kc)⟩ _ bo HBO.out HS.out HM.out) ?_
  rintro e w2 ⟨rfl, hx⟩
  have HX2 : Hid (Ex w w2) := (Ex.trans (Below.drew (Below.alloc (Below.alloc (Below.refl _ _) (Nat.le_refl _) _) (by simp) _)) hx : Ex w w2)
  clear hx
  go_wp2_with fail
  go_ret
  refine ⟨?_, HX2.out⟩
  rw [← HO.out, ← HBO.out]
  simp [Pd.part, bareB]
 go_wp2_with fail
 go_ret
 refine ⟨?_, Below.drew (Below.alloc (Below.alloc (Below.refl _ _) (Nat.le_refl _) _) (by simp) _)⟩
 rw [← HO.out]
 simp [Pd.part, hk1, hk2, hk3, hk4, hk5, hk6, hk7, hk8, hk9, hk10]
end Go.Proofs.Ytibnhjfeepdddaa
