/-
  The library's Index and Contains of texts; the landed holdsFor.
-/
import Derived.Test.YtbdjccmlgdfapaaLpref
import Derived.Test.YtbdjccmlgdfapaaPsame
namespace Go.Proofs.Ytbdjccmlgdfapaa
open Go.RowKit
set_option linter.unusedVariables false
set_option linter.unusedSimpArgs false
set_option maxHeartbeats 4000000 in
set_option maxRecDepth 100000 in
theorem index_is (a : Option Addr) (n cap : Nat) (l : List (List UInt8)) (s : List UInt8) (w : World) (hn : n = l.length) (hB : Rd st w a cap l) :
    Calls Try.prog 81 #[.slice a n cap, .string (str s)] w fun e w' => (∃ r : Int, e = .returned (.int .i64 r) ∧ (0 ≤ r ↔ s ∈ l)) ∧ w' = w := by
  subst hn
  have h1 := hB.1
  have h2 := hB.2.1
  unfold maxLen at h2
  have HB : Hid (Rd st w a cap l) := hB
  have zs := str_toList s
  clear hB
  go_enter Try.func81, Try.ntmps81
  go_wp2_with fail
  go_loopw [8, 5] (fun iv jv wr => ∃ i : Nat, i ≤ l.length ∧ iv = .int .i64 i ∧ Hid (s ∉ l.take i) ∧ Hid (wr = w)) (fun iv jv wr => l.length - (intOf iv).toNat)
  case atStart => exact ⟨0, by omega, rfl, (by simp : s ∉ l.take 0), (rfl : w = w)⟩
  case round =>
    obtain ⟨i, hi, rfl, HA, HW⟩ := hrel
    obtain rfl := HW.out
    clear HW
    by_cases hlt : i < l.length
    · have hti : (i : Int) < (l.length : Int) := by omega
      obtain ⟨b, off, hpp, e0⟩ := HB.out.at hlt
      obtain ⟨x, hx⟩ : ∃ x, l[i] = x := ⟨_, rfl⟩
      rw [hx] at e0
      have HNX : Hid (l.take (i + 1) = l.take i ++ [x]) := (by rw [List.take_add_one, List.getElem?_eq_getElem hlt, hx]; rfl : l.take (i + 1) = l.take i ++ [x])
      have HXM : Hid (x ∈ l) := (by rw [← hx]; exact List.getElem_mem hlt : x ∈ l)
      have zx := str_toList x
      subst hpp
      clear hx
      by_cases hsx : s = x
      · subst hsx
        go_wp2_with fail
        go_ret
        exact ⟨⟨(i : Int), rfl, by simp [HXM.out]⟩, rfl⟩
      · have hq : (s == x) = false := beq_eq_false_iff_ne.2 hsx
        have HA2 : Hid (s ∉ l.take (i + 1)) := (by
          rw [HNX.out]
          intro h
          rcases List.mem_append.1 h with h | h
          · exact HA.out h
          · rw [List.mem_singleton] at h; exact hsx h : s ∉ l.take (i + 1))
        clear hsx
        go_wp2_with fail
        go_roundw
        case rel => exact ⟨i + 1, by omega, by go_num, HA2, trivial⟩
        case measure => simp [intOf]; omega
    · have hti : ¬ (i : Int) < (l.length : Int) := by omega
      have HN : Hid (s ∉ l) := (by have h := HA.out; rwa [List.take_of_length_le (by omega)] at h : s ∉ l)
      go_wp2_with fail
      go_ret
      exact ⟨⟨-1, rfl, by simp [HN.out]⟩, rfl⟩
set_option maxRecDepth 100000 in
theorem contains_is (a : Option Addr) (n cap : Nat) (l : List (List UInt8)) (s : List UInt8) (w : World) (hn : n = l.length) (hB : Rd st w a cap l) (o : Bool) (ho : decide (s ∈ l) = o) :
    Calls Try.prog 63 #[.slice a n cap, .string (str s)] w fun e w' => e = .returned (.bool o) ∧ w' = w := by
  have HC : Hid (Calls Try.prog 81 #[.slice a n cap, .string (str s)] w fun e w' => (∃ r : Int, e = .returned (.int .i64 r) ∧ (0 ≤ r ↔ s ∈ l)) ∧ w' = w) := index_is a n cap l s w hn hB
  have HO : Hid (decide (s ∈ l) = o) := ho
  clear hB hn ho
  go_enter Try.func63, Try.ntmps63
  go_wp2_with fail
  go_at_call 81
  refine Calls.mono HC.out ?_
  rintro e w2 ⟨⟨r, rfl, hr⟩, hw⟩
  subst hw
  have hd : decide (0 ≤ r) = o := by rw [← HO.out]; exact decide_eq_decide.2 hr
  clear hr HC HO
  go_wp2_with fail
  go_ret
  exact ⟨rfl, rfl⟩
theorem beqI (a b : Int) : (a == b) = decide (a = b) := by
  by_cases h : a = b
  · simp [h]
  · rw [decide_eq_false h]; exact beq_eq_false_iff_ne.2 h
theorem beqL (a b : List UInt8) : (a == b) = decide (a = b) := by
  by_cases h : a = b
  · simp [h]
  · rw [decide_eq_false h]; exact beq_eq_false_iff_ne.2 h
namespace Pd
/-- Does a part that asks one column hold for that column's cell? -/
def leafC (c : Ce) (h : Hd) : Bool :=
  if h.k = 4 then decide (c.k = 1 ∧ c.n < h.n)
  else if h.k = 5 then decide (c.k = 1 ∧ c.n = h.n)
  else if h.k = 6 then decide (c.k = 2 ∧ c.s = h.s)
  else if h.k = 7 then decide (c.k = 2 ∧ c.s ∈ h.set)
  else if h.k = 8 then decide (c.k = 2) && T.begins h.s c.s
  else if h.k = 9 then decide (c.k = 0)
  else false
theorem leaf_eq (r : Rw) (h : Hd) (hk : h.k ≠ 10) : leaf r h = leafC (Rw.cell r.c h.col) h := by
  unfold leaf leafC
  simp only [if_neg hk]
end Pd
set_option maxHeartbeats 8000000 in
set_option maxRecDepth 100000 in
theorem holdsFor_is {B : Nat → Prop} (h : Hd) (v : PV) (c : Ce) (w : World) (hH : HdOk B w v h) (hF : HdFit h) (hc : c.s.length ≤ maxLen) (o : Bool) (ho : Pd.leafC c h = o) :
    Calls Try.prog 43 #[pvv v, cv c] w fun e w' => e = .returned (.bool o) ∧ Ex w w' := by
  obtain ⟨vk, vcol, vn, vm, vs, ⟨sa, sn, sc⟩, vkids⟩ := v
  obtain ⟨k, col, hn', m, s, set⟩ := h
  obtain ⟨ccol, ck, cn, cs⟩ := c
  obtain ⟨⟨rfl, rfl, rfl, rfl, rfl⟩, hsn, hB, _⟩ := hH
  simp only at hsn hB hc
  subst hsn
  have HO : Hid (Pd.leafC ⟨ccol, ck, cn, cs⟩ ⟨vk, vcol, vn, vm, vs, set⟩ = o) := ho
  have HF : Hid (HdFit ⟨vk, vcol, vn, vm, vs, set⟩) := hF
  have HC : Hid (cs.length ≤ maxLen) := hc
  obtain ⟨W, hW⟩ : ∃ W, (w.alloc (pb ⟨vk, vcol, vn, vm, vs, (sa, set.length, sc), vkids⟩)).alloc (cb ⟨ccol, ck, cn, cs⟩) = W := ⟨_, rfl⟩
  have hX1 : Ex w (w.alloc (pb ⟨vk, vcol, vn, vm, vs, (sa, set.length, sc), vkids⟩)) := (Below.refl _ _).alloc (Nat.le_refl _) _
  have hXW : Ex w W := by rw [← hW]; exact Below.alloc hX1 (by simp) _
  have HXW : Hid (Ex w W) := hXW
  have HB : Hid (Rd st W sa sc set) := hB.below hXW
  have hP : PAt W w.heap.size ⟨vk, vcol, vn, vm, vs, (sa, set.length, sc), vkids⟩ := by rw [← hW]; exact (PAt.new w _).alloc _
  have hE : EAt W (w.heap.size + 1) ⟨ccol, ck, cn, cs⟩ := by
    rw [← hW]
    exact EAt.newat (w.alloc (pb ⟨vk, vcol, vn, vm, vs, (sa, set.length, sc), vkids⟩)) (w.heap.size + 1) _ (by simp)
  obtain ⟨p0, p1, p2, p3, p4, p5, p6⟩ := hP.all
  obtain ⟨e0, e1, e2, e3⟩ := hE.all
  simp only at p0 p1 p2 p3 p4 p5 p6 e0 e1 e2 e3
  have z1 := str_toList vs
  have z2 := str_toList cs
  clear hP hE hB hX1 hXW ho hF hc
  unfold pvv cv
  simp only [sv]
  go_enter Try.func43, Try.ntmps43
  by_cases h4 : vk = 4
  · subst h4
    go_wp2_with fail
    all_goals go_ret
    all_goals refine ⟨?_, HXW.out⟩
    all_goals rw [← HO.out]
    all_goals first | (simp_all [Pd.leafC]; done) | (simp_all [Pd.leafC]; first | exact beqI _ _ | exact beqL _ _)
  by_cases h5 : vk = 5
  · subst h5
    go_wp2_with fail
    all_goals go_ret
    all_goals refine ⟨?_, HXW.out⟩
    all_goals rw [← HO.out]
    all_goals first | (simp_all [Pd.leafC]; done) | (simp_all [Pd.leafC]; first | exact beqI _ _ | exact beqL _ _)
  by_cases h6 : vk = 6
  · subst h6
    go_wp2_with fail
    all_goals go_ret
    all_goals refine ⟨?_, HXW.out⟩
    all_goals rw [← HO.out]
    all_goals first | (simp_all [Pd.leafC]; done) | (simp_all [Pd.leafC]; first | exact beqI _ _ | exact beqL _ _)
  by_cases h9 : vk = 9
  · subst h9
    go_wp2_with fail
    all_goals go_ret
    all_goals refine ⟨?_, HXW.out⟩
    all_goals rw [← HO.out]
    all_goals first | (simp_all [Pd.leafC]; done) | (simp_all [Pd.leafC]; first | exact beqI _ _ | exact beqL _ _)
  by_cases h7 : vk = 7
  · subst h7
    by_cases hck : ck = 2
    · subst hck
      obtain ⟨x, hx⟩ : ∃ x, decide (cs ∈ set) = x := ⟨_, rfl⟩
      have HX : Hid (decide (cs ∈ set) = x) := hx
      have HC2 : Hid (Calls Try.prog 63 #[.slice sa set.length sc, .string (str cs)] W fun e w' => e = .returned (.bool x) ∧ w' = W) := contains_is sa _ sc set cs W rfl HB.out x hx
      have HOX : Hid (o = x) := (by rw [← HO.out, ← hx]; simp [Pd.leafC] : o = x)
      clear hx
      go_wp2_with fail
      go_at_call 63
      refine Calls.mono HC2.out ?_
      rintro e w2 ⟨rfl, hw⟩
      subst hw
      go_wp2_with fail
      go_ret
      exact ⟨by rw [HOX.out]; rfl, HXW.out⟩
    · have t2 : (ck == 2) = false := beq_eq_false_iff_ne.2 hck
      have HOX : Hid (o = false) := (by rw [← HO.out]; simp [Pd.leafC, hck] : o = false)
      clear hck
      go_wp2_with fail
      go_ret
      exact ⟨by rw [HOX.out]; rfl, HXW.out⟩
  by_cases h8 : vk = 8
  · subst h8
    by_cases hck : ck = 2
    · subst hck
      obtain ⟨x, hx⟩ : ∃ x, T.begins vs cs = x := ⟨_, rfl⟩
      have HC2 : Hid (Calls Try.prog 64 #[.string (str cs), .string (str vs)] W fun e w' => e = .returned (.bool x) ∧ w' = W) := hasPrefix_is cs vs W HC.out HF.out.sM x hx
      have HOX : Hid (o = x) := (by rw [← HO.out, ← hx]; simp [Pd.leafC] : o = x)
      clear hx
      go_wp2_with fail
      go_at_call 64
      refine Calls.mono HC2.out ?_
      rintro e w2 ⟨rfl, hw⟩
      subst hw
      go_wp2_with fail
      go_ret
      exact ⟨by rw [HOX.out]; rfl, HXW.out⟩
    · have t2 : (ck == 2) = false := beq_eq_false_iff_ne.2 hck
      have HOX : Hid (o = false) := (by rw [← HO.out]; simp [Pd.leafC, hck] : o = false)
      clear hck
      go_wp2_with fail
      go_ret
      exact ⟨by rw [HOX.out]; rfl, HXW.out⟩
  have HOX : Hid (o = false) := (by rw [← HO.out]; simp [Pd.leafC, h4, h5, h6, h7, h8, h9] : o = false)
  go_wp2_with fail
  go_ret
  exact ⟨by rw [HOX.out]; rfl, HXW.out⟩
end Go.Proofs.Ytbdjccmlgdfapaa
