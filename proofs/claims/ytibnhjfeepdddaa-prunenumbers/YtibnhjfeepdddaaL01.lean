/-
  What the law's own leaves answers: predicates without Kids.
-/
import Derived.Test.YtibnhjfeepdddaaM36
namespace Go.Proofs.Ytibnhjfeepdddaa
open Go.RowKit
set_option linter.unusedVariables false
set_option linter.unusedSimpArgs false
/-- A list of predicates that the callees bear. -/
def Pd.Fines (l : List Pr) : Prop := ∀ p ∈ l, Pd.Fine p ∧ Pd.size p ≤ 10
theorem Pd.size_bare (h : Hd) : Pd.size (Pr.mk' h []) ≤ 10 := by rw [Pd.size_mk]; simp
theorem Pd.Fines.append {l m : List Pr} (h : Pd.Fines l) (h' : Pd.Fines m) : Pd.Fines (l ++ m) := by
 intro p hp
 rcases List.mem_append.1 hp with h1 | h1
 ·exact h p h1
 ·exact h' p h1
def lfA (n : Int) : List Pr := [Pr.mk' ⟨4, [120], n, 0, [], []⟩ [], Pr.mk' ⟨5, [120], n, 0, [], []⟩ [], Pr.mk' ⟨10, [], n, 6, [], []⟩ [], Pr.mk' ⟨10, [], 2, n, [], []⟩ []]
def lfAv (n : Int) : List PV := [⟨4, [120], n, 0, [], (none, 0, 0), none, 0, 0⟩, ⟨5, [120], n, 0, [], (none, 0, 0), none, 0, 0⟩, ⟨10, [], n, 6, [], (none, 0, 0), none, 0, 0⟩, ⟨10, [], 2, n, [], (none, 0, 0), none, 0, 0⟩]
def lfS : List (List UInt8) := [[], [97], [98], [98, 97], [98, 98], [99], [100]]
def lfB (s : List UInt8) : List Pr := [Pr.mk' ⟨6, [115], 0, 0, s, []⟩ [], Pr.mk' ⟨8, [115], 0, 0, s, []⟩ [], Pr.mk' ⟨7, [115], 0, 0, [], [s, [122]]⟩ []]
def lfC : List Pr := [Pr.mk' ⟨9, [120], 0, 0, [], []⟩ [], Pr.mk' ⟨9, [115], 0, 0, [], []⟩ [], Pr.mk' ⟨9, [119], 0, 0, [], []⟩ [], Pr.mk' ⟨7, [115], 0, 0, [], []⟩ [], Pr.mk' ⟨6, [120], 0, 0, [98], []⟩ [], Pr.mk' ⟨4, [115], 5, 0, [], []⟩ [], Pr.mk' ⟨4, [119], 5, 0, [], []⟩ [], Pr.mk' ⟨8, [119], 0, 0, [], []⟩ [], Pr.mk' ⟨77, [], 0, 0, [], []⟩ [], Pr.mk' ⟨1, [], 0, 0, [], []⟩ [], Pr.mk' ⟨2, [], 0, 0, [], []⟩ []]
def lfCv : List PV := [⟨9, [120], 0, 0, [], (none, 0, 0), none, 0, 0⟩, ⟨9, [115], 0, 0, [], (none, 0, 0), none, 0, 0⟩, ⟨9, [119], 0, 0, [], (none, 0, 0), none, 0, 0⟩, ⟨7, [115], 0, 0, [], (none, 0, 0), none, 0, 0⟩, ⟨6, [120], 0, 0, [98], (none, 0, 0), none, 0, 0⟩, ⟨4, [115], 5, 0, [], (none, 0, 0), none, 0, 0⟩, ⟨4, [119], 5, 0, [], (none, 0, 0), none, 0, 0⟩, ⟨8, [119], 0, 0, [], (none, 0, 0), none, 0, 0⟩, ⟨77, [], 0, 0, [], (none, 0, 0), none, 0, 0⟩, ⟨1, [], 0, 0, [], (none, 0, 0), none, 0, 0⟩, ⟨2, [], 0, 0, [], (none, 0, 0), none, 0, 0⟩]
theorem lfA_lay (B : Nat → Prop) (w : World) (n : Int) : Pd.Lays B w (lfAv n) (lfA n) := ((((Pd.Lays.one (lay_bare _ _ _ _ _ _ _)).append (Pd.Lays.one (lay_bare _ _ _ _ _ _ _))).append (Pd.Lays.one (lay_bare _ _ _ _ _ _ _))).append (Pd.Lays.one (lay_bare _ _ _ _ _ _ _)))
theorem lfC_lay (B : Nat → Prop) (w : World) : Pd.Lays B w lfCv lfC := (((((((((((Pd.Lays.one (lay_bare _ _ _ _ _ _ _)).append (Pd.Lays.one (lay_bare _ _ _ _ _ _ _))).append (Pd.Lays.one (lay_bare _ _ _ _ _ _ _))).append (Pd.Lays.one (lay_bare _ _ _ _ _ _ _))).append (Pd.Lays.one (lay_bare _ _ _ _ _ _ _))).append (Pd.Lays.one (lay_bare _ _ _ _ _ _ _))).append (Pd.Lays.one (lay_bare _ _ _ _ _ _ _))).append (Pd.Lays.one (lay_bare _ _ _ _ _ _ _))).append (Pd.Lays.one (lay_bare _ _ _ _ _ _ _))).append (Pd.Lays.one (lay_bare _ _ _ _ _ _ _))).append (Pd.Lays.one (lay_bare _ _ _ _ _ _ _)))
theorem lfB_lay {B : Nat → Prop} {w : World} {g : Nat} {s : List UInt8} (hB : B g) (h : Rd st w (some ⟨g, 0, none⟩) 2 [s, [122]]) : Pd.Lays B w [⟨6, [115], 0, 0, s, (none, 0, 0), none, 0, 0⟩, ⟨8, [115], 0, 0, s, (none, 0, 0), none, 0, 0⟩, ⟨7, [115], 0, 0, [], (some ⟨g, 0, none⟩, 2, 2), none, 0, 0⟩] (lfB s) := by
 have h3 : Pd.Lay B (Pr.mk' ⟨7, [115], 0, 0, [], [s, [122]]⟩ []) w ⟨7, [115], 0, 0, [], (some ⟨g, 0, none⟩, 2, 2), none, 0, 0⟩ := by
  rw [Pd.lay_mk]
  refine ⟨⟨⟨rfl, rfl, rfl, rfl, rfl⟩, rfl, h, fun h0 b off e => ?_⟩, rfl, fun h0 => by simp at h0, [], RdW.nil _, Pd.Lays.nil _ _⟩
  simp only [Option.some.injEq, Addr.mk.injEq] at e
  rw [← e.1]; exact hB
 exact ((Pd.Lays.one (lay_bare _ _ _ _ _ _ _)).append (Pd.Lays.one (lay_bare _ _ _ _ _ _ _))).append (Pd.Lays.one h3)
theorem lfA_fine (n : Int) (hn : In64 n) : Pd.Fines (lfA n) := by
 intro p hp
 simp only [lfA, List.mem_cons, List.not_mem_nil, or_false] at hp
 rcases hp with rfl | rfl | rfl | rfl
 all_goals refine ⟨?_, Pd.size_bare _⟩
 all_goals exact Pd.fine_bare ⟨by decide, by decide⟩ (by first | exact hn | exact ⟨by decide, by decide⟩) (by first | exact hn | exact ⟨by decide, by decide⟩) (by decide) (by decide)
theorem lfB_fine (s : List UInt8) (hs : s.length ≤ 2) : Pd.Fines (lfB s) := by
 intro p hp
 simp only [lfB, List.mem_cons, List.not_mem_nil, or_false] at hp
 rcases hp with rfl | rfl | rfl
 ·exact ⟨Pd.fine_bare ⟨by decide, by decide⟩ ⟨by decide, by decide⟩ ⟨by decide, by decide⟩ (by decide) (by omega), Pd.size_bare _⟩
 ·exact ⟨Pd.fine_bare ⟨by decide, by decide⟩ ⟨by decide, by decide⟩ ⟨by decide, by decide⟩ (by decide) (by omega), Pd.size_bare _⟩
 ·refine ⟨?_, Pd.size_bare _⟩
  rw [Pd.fine_mk]
  refine ⟨⟨⟨by simp only; decide, by simp only; decide⟩, ⟨by simp only; decide, by simp only; decide⟩, ⟨by simp only; decide, by simp only; decide⟩, by simp only; decide, by simp only; decide, by simp, ?_⟩, by simp, by simp⟩
  intro x hx
  simp at hx
  rcases hx with rfl | rfl
  ·omega
  ·decide
theorem lfC_fine : Pd.Fines lfC := by
 intro p hp
 simp only [lfC, List.mem_cons, List.not_mem_nil, or_false] at hp
 rcases hp with rfl | rfl | rfl | rfl | rfl | rfl | rfl | rfl | rfl | rfl | rfl
 all_goals refine ⟨?_, Pd.size_bare _⟩
 all_goals exact Pd.fine_bare ⟨by decide, by decide⟩ ⟨by decide, by decide⟩ ⟨by decide, by decide⟩ (by decide) (by decide)
set_option maxHeartbeats 8000000 in
set_option maxRecDepth 100000 in
theorem leaves_is (w : World) : Calls Try.prog 8 #[] w fun e w' => ∃ a cap L, e = .returned (.slice a L.length cap) ∧ Pd.RdP w' a cap L ∧ L.length = 56 ∧ Pd.Fines L ∧ Ex w w' := by
 go_enter Try.func8, Try.ntmps8
 go_wp2_with fail
 go_loopw [1, 2] (fun lv nv wr => ∃ (i : Nat) (n : Int) (L : List Pr), i ≤ 6 ∧ n ≤ (i : Int) + 3 ∧ (i : Int) + 3 ≤ n ∧ nv = .int .i64 n ∧ Hid (L.length = 4 * i) ∧ Hid (Pd.Fines L) ∧ Hid (Pd.OwnQ (fun _ => True) wr w.heap.size lv L) ∧ Hid (Ex w wr)) (fun lv nv wr => 9 - (intOf nv).toNat)
 case atStart => exact ⟨0, 3, [], by omega, by omega, by omega, rfl, (rfl : ([] : List Pr).length = 4 * 0), (fun p hp => absurd hp (by simp) : Pd.Fines []), (Pd.OwnQ.nil _ _ _ : Pd.OwnQ (fun _ => True) w w.heap.size (.slice none 0 0) []), Ex.refl w⟩
 case round =>
  obtain ⟨i, n, L, hi, hn1, hn2, rfl, HLn, HFi, HQ, HX⟩ := hrel
  by_cases hlt : n ≤ 8
  ·obtain ⟨w3, hw3⟩ : ∃ w3, wr.alloc (.cells #[.int .i64 4, .string { data := #[120] }, .int .i64 n, .int .i64 0, .string { data := #[] }, .slice none 0 0, .slice none 0 0, .int .i64 5, .string { data := #[120] }, .int .i64 n, .int .i64 0, .string { data := #[] }, .slice none 0 0, .slice none 0 0, .int .i64 10, .string { data := #[] }, .int .i64 n, .int .i64 6, .string { data := #[] }, .slice none 0 0, .slice none 0 0, .int .i64 10, .string { data := #[] }, .int .i64 2, .int .i64 n, .string { data := #[] }, .slice none 0 0, .slice none 0 0] 40) = w3 := ⟨_, rfl⟩
   have hX3 : Ex wr w3 := by rw [← hw3]; exact (Below.refl _ _).alloc (Nat.le_refl _) _
   have HR3 : Hid (RdW 7 pc w3 (some ⟨wr.heap.size, 0, none⟩) 4 (lfAv n)) := (by rw [← hw3]; exact RdW.laid pc_len wr (lfAv n) (by simp [lfAv]) : RdW 7 pc w3 _ 4 (lfAv n))
   have HOB : Hid (∀ g, u1.ownBlock = some g → w.heap.size ≤ g ∧ g < wr.heap.size) := HQ.out.lt
   have HQ3 : Hid (Pd.OwnQ (fun _ => True) w3 w.heap.size u1 L) := (HQ.out.later hX3 : Pd.OwnQ _ w3 _ _ _)
   have HX3 : Hid (Ex w w3) := (HX.out.trans hX3 : Ex w w3)
   have HS3 : Hid (w.heap.size ≤ w3.heap.size) := (HX3.out.size : w.heap.size ≤ w3.heap.size)
   have HW3 : Hid (wr.alloc (.cells #[.int .i64 4, .string { data := #[120] }, .int .i64 n, .int .i64 0, .string { data := #[] }, .slice none 0 0, .slice none 0 0, .int .i64 5, .string { data := #[120] }, .int .i64 n, .int .i64 0, .string { data := #[] }, .slice none 0 0, .slice none 0 0, .int .i64 10, .string { data := #[] }, .int .i64 n, .int .i64 6, .string { data := #[] }, .slice none 0 0, .slice none 0 0, .int .i64 10, .string { data := #[] }, .int .i64 2, .int .i64 n, .string { data := #[] }, .slice none 0 0, .slice none 0 0] 40) = w3) := hw3
   have hstep : ∀ v9 w9, Pd.OwnQ (fun _ => True) w9 w.heap.size v9 (L ++ lfA n) → w3.grownBy w9 u1.ownBlock → Hid (Pd.OwnQ (fun _ => True) w9 w.heap.size v9 (L ++ lfA n)) ∧ Hid (Ex w w9) := by
    intro v9 w9 ho9 hg9
    exact ⟨ho9, Below.grown HX3.out hg9 HX3.out.size (fun g hg => by have := (HOB.out g hg).1; omega)⟩
   have HNL : Hid ((L ++ lfA n).length = 4 * (i + 1)) := (by rw [List.length_append, HLn.out]; simp only [lfA, List.length_cons, List.length_nil]; omega : (L ++ lfA n).length = 4 * (i + 1))
   have HNF : Hid (Pd.Fines (L ++ lfA n)) := (Pd.Fines.append HFi.out (lfA_fine n ⟨by omega, by omega⟩) : Pd.Fines _)
   have hln : L.length + 4 ≤ 1000 := by rw [HLn.out]; omega
   clear hX3 hw3
   go_wp2_with (at_builtin; rw [HW3.out]; refine Pd.wpList_append_Q rfl (.tmp 9) (.tmp 18) rfl w.heap.size u1 L rfl HQ3.out (some ⟨wr.heap.size, 0, none⟩) 4 4 (lfAv n) (lfA n) rfl rfl HR3.out (lfA_lay _ _ n) (by simp only [lfA, List.length_cons, List.length_nil]; omega) HS3.out ?_; intro v9 w9 ho9 hg9 hat9; obtain ⟨HO9, HX9⟩ := hstep v9 w9 ho9 hg9; clear ho9 hg9 hat9)
   go_roundw
   case rel => exact ⟨i + 1, n + 1, L ++ lfA n, by omega, by omega, by omega, by go_num, HNL, HNF, HO9, HX9⟩
   case measure => simp [intOf]; omega
  ·have HL24 : Hid (L.length = 24) := (by have := HLn.out; omega : L.length = 24)
   obtain ⟨wo, hwo⟩ : ∃ wo, wo = wr := ⟨_, rfl⟩
   subst hwo
   obtain ⟨w0, hw0⟩ : ∃ w0, wo.alloc (.cells #[.string { data := #[] }, .string { data := #[97] }, .string { data := #[98] }, .string { data := #[98, 97] }, .string { data := #[98, 98] }, .string { data := #[99] }, .string { data := #[100] }] 9) = w0 := ⟨_, rfl⟩
   have hX0 : Ex wo w0 := by rw [← hw0]; exact (Below.refl _ _).alloc (Nat.le_refl _) _
   have HT0 : Hid (RowAt st 9 w0 wo.heap.size lfS) := (by rw [← hw0]; exact heap_alloc_new wo _ : RowAt st 9 w0 wo.heap.size lfS)
   have HX0 : Hid (Ex w w0) := (HX.out.trans hX0 : Ex w w0)
   have HQ0 : Hid (Pd.OwnQ (fun _ => True) w0 w.heap.size u1 L) := (HQ.out.later hX0 : Pd.OwnQ _ w0 _ _ _)
   have HNE : Hid (u1.ownBlock ≠ some wo.heap.size) := (fun e => by have := (HQ.out.lt _ e).2; omega : u1.ownBlock ≠ some wo.heap.size)
   clear hX0 HLn HQ HX hi hn1 hn2
   go_wp2_with fail
   go_loopw [1, 22, 4] (fun lv jv sv4 wq => ∃ (i : Nat) (L : List Pr), i ≤ 7 ∧ jv = .int .i64 i ∧ Hid (L.length = 24 + 3 * i) ∧ Hid (Pd.Fines L) ∧ Hid (Pd.OwnQ (fun _ => True) wq w.heap.size lv L) ∧ Hid (RowAt st 9 wq wo.heap.size lfS) ∧ Hid (lv.ownBlock ≠ some wo.heap.size) ∧ Hid (Ex w wq)) (fun lv jv sv4 wq => 7 - (intOf jv).toNat)
   case atStart => exact ⟨0, L, by omega, rfl, HL24, HFi, HQ0, HT0, HNE, HX0⟩
   case round =>
    obtain ⟨i, L, hi, rfl, HLn, HFi, HQ, HTq, HNq, HX⟩ := hrel
    by_cases hlt : i < 7
    ·have hti : (i : Int) < 7 := by omega
     have hll : i < lfS.length := hlt
     have e0 := HTq.out.cell hll
     obtain ⟨s, hs⟩ : ∃ s, lfS[i] = s := ⟨_, rfl⟩
     rw [hs] at e0
     have hs2 : s.length ≤ 2 := by rw [← hs]; exact (by decide : ∀ x ∈ lfS, x.length ≤ 2) _ (List.getElem_mem hll)
     obtain ⟨w1, hw1⟩ : ∃ w1, wr.alloc (.cells #[.string (str s), .string { data := #[122] }] 9) = w1 := ⟨_, rfl⟩
     obtain ⟨w3, hw3⟩ : ∃ w3, w1.alloc (.cells #[.int .i64 6, .string { data := #[115] }, .int .i64 0, .int .i64 0, .string (str s), .slice none 0 0, .slice none 0 0, .int .i64 8, .string { data := #[115] }, .int .i64 0, .int .i64 0, .string (str s), .slice none 0 0, .slice none 0 0, .int .i64 7, .string { data := #[115] }, .int .i64 0, .int .i64 0, .string { data := #[] }, .slice (some ⟨wr.heap.size, 0, none⟩) 2 2, .slice none 0 0] 40) = w3 := ⟨_, rfl⟩
     have hX1 : Ex wr w1 := by rw [← hw1]; exact (Below.refl _ _).alloc (Nat.le_refl _) _
     have hX3 : Ex w1 w3 := by rw [← hw3]; exact (Below.refl _ _).alloc (Nat.le_refl _) _
     have hRS : Rd st w1 (some ⟨wr.heap.size, 0, none⟩) 2 [s, [122]] := by rw [← hw1]; exact Rd.laid wr 9 [s, [122]] (by simp)
     have hsz1 : w1.heap.size = wr.heap.size + 1 := by rw [← hw1]; simp
     have HR3 : Hid (RdW 7 pc w3 (some ⟨w1.heap.size, 0, none⟩) 3 [⟨6, [115], 0, 0, s, (none, 0, 0), none, 0, 0⟩, ⟨8, [115], 0, 0, s, (none, 0, 0), none, 0, 0⟩, ⟨7, [115], 0, 0, [], (some ⟨wr.heap.size, 0, none⟩, 2, 2), none, 0, 0⟩]) := (by rw [← hw3]; exact RdW.laid pc_len w1 [⟨6, [115], 0, 0, s, (none, 0, 0), none, 0, 0⟩, ⟨8, [115], 0, 0, s, (none, 0, 0), none, 0, 0⟩, ⟨7, [115], 0, 0, [], (some ⟨wr.heap.size, 0, none⟩, 2, 2), none, 0, 0⟩] (by simp) : RdW 7 pc w3 _ 3 _)
     have HOB : Hid (∀ g, u1.ownBlock = some g → w.heap.size ≤ g ∧ g < wr.heap.size) := HQ.out.lt
     have HL3 : Hid (Pd.Lays (fun b => u1.ownBlock ≠ some b ∧ True) w3 [⟨6, [115], 0, 0, s, (none, 0, 0), none, 0, 0⟩, ⟨8, [115], 0, 0, s, (none, 0, 0), none, 0, 0⟩, ⟨7, [115], 0, 0, [], (some ⟨wr.heap.size, 0, none⟩, 2, 2), none, 0, 0⟩] (lfB s)) := (lfB_lay ⟨fun e => by have := (HOB.out _ e).2; omega, trivial⟩ (hRS.below hX3) : Pd.Lays _ w3 _ _)
     have HQ3 : Hid (Pd.OwnQ (fun _ => True) w3 w.heap.size u1 L) := (HQ.out.later (hX1.trans hX3) : Pd.OwnQ _ w3 _ _ _)
     have HX3 : Hid (Ex w w3) := (HX.out.trans (hX1.trans hX3) : Ex w w3)
     have HT3 : Hid (RowAt st 9 w3 wo.heap.size lfS) := (HTq.out.below (hX1.trans hX3) : RowAt st 9 w3 _ _)
     have HS3 : Hid (w.heap.size ≤ w3.heap.size) := (HX3.out.size : w.heap.size ≤ w3.heap.size)
     have HW3 : Hid (w1.alloc (.cells #[.int .i64 6, .string { data := #[115] }, .int .i64 0, .int .i64 0, .string (str s), .slice none 0 0, .slice none 0 0, .int .i64 8, .string { data := #[115] }, .int .i64 0, .int .i64 0, .string (str s), .slice none 0 0, .slice none 0 0, .int .i64 7, .string { data := #[115] }, .int .i64 0, .int .i64 0, .string { data := #[] }, .slice (some ⟨wr.heap.size, 0, none⟩) 2 2, .slice none 0 0] 40) = w3) := hw3
     have HB0 : Hid (∀ g, u1.ownBlock = some g → w.heap.size ≤ g) := (fun g hg => (HOB.out g hg).1 : ∀ g, u1.ownBlock = some g → w.heap.size ≤ g)
     have hstep : ∀ v9 w9, Pd.OwnQ (fun _ => True) w9 w.heap.size v9 (L ++ lfB s) → w3.grownBy w9 u1.ownBlock → (v9.ownBlock = u1.ownBlock ∨ v9.ownBlock = some w3.heap.size) → Hid (Pd.OwnQ (fun _ => True) w9 w.heap.size v9 (L ++ lfB s)) ∧ Hid (RowAt st 9 w9 wo.heap.size lfS) ∧ Hid (v9.ownBlock ≠ some wo.heap.size) ∧ Hid (Ex w w9) := by
      intro v9 w9 ho9 hg9 hat9
      refine ⟨ho9, (by have hz := HT3.out; unfold RowAt at hz ⊢; rw [hg9.block _ HT3.out.lt (Ne.symm HNq.out)]; exact hz : RowAt st 9 w9 _ _), ?_, ?_⟩
      ·rcases hat9 with e | e
       ·rw [e]; exact HNq.out
       ·rw [e]; intro e2; have := HT3.out.lt; simp only [Option.some.injEq] at e2; omega
      exact Below.grown HX3.out hg9 HX3.out.size (fun g hg => HB0.out g hg)
     have HNL : Hid ((L ++ lfB s).length = 24 + 3 * (i + 1)) := (by rw [List.length_append, HLn.out]; simp only [lfB, List.length_cons, List.length_nil]; omega : (L ++ lfB s).length = 24 + 3 * (i + 1))
     have HNF : Hid (Pd.Fines (L ++ lfB s)) := (Pd.Fines.append HFi.out (lfB_fine s hs2) : Pd.Fines _)
     have hln : L.length + 4 ≤ 1000 := by rw [HLn.out]; omega
     clear hX1 hX3 hw3 hRS hsz1 hs hs2
     go_wp2_with (at_builtin; rw [HW3.out]; refine Pd.wpList_append_Q rfl (.tmp 26) (.tmp 34) rfl w.heap.size u1 L rfl HQ3.out (some ⟨w1.heap.size, 0, none⟩) 3 3 _ (lfB s) rfl rfl HR3.out HL3.out (by simp only [lfB, List.length_cons, List.length_nil]; omega) HS3.out ?_; intro v9 w9 ho9 hg9 hat9; obtain ⟨HO9, HT9, HN9, HX9⟩ := hstep v9 w9 ho9 hg9 hat9; clear ho9 hg9 hat9)
     go_roundw
     case rel => exact ⟨i + 1, L ++ lfB s, by omega, by go_num, HNL, HNF, HO9, HT9, HN9, HX9⟩
     case measure => simp [intOf]; omega
    ·have hti : ¬ (i : Int) < 7 := by omega
     have HLq : Hid (L.length = 45) := (by have := HLn.out; omega : L.length = 45)
     obtain ⟨w3, hw3⟩ : ∃ w3, wr.alloc (.cells #[.int .i64 9, .string { data := #[120] }, .int .i64 0, .int .i64 0, .string { data := #[] }, .slice none 0 0, .slice none 0 0, .int .i64 9, .string { data := #[115] }, .int .i64 0, .int .i64 0, .string { data := #[] }, .slice none 0 0, .slice none 0 0, .int .i64 9, .string { data := #[119] }, .int .i64 0, .int .i64 0, .string { data := #[] }, .slice none 0 0, .slice none 0 0, .int .i64 7, .string { data := #[115] }, .int .i64 0, .int .i64 0, .string { data := #[] }, .slice none 0 0, .slice none 0 0, .int .i64 6, .string { data := #[120] }, .int .i64 0, .int .i64 0, .string { data := #[98] }, .slice none 0 0, .slice none 0 0, .int .i64 4, .string { data := #[115] }, .int .i64 5, .int .i64 0, .string { data := #[] }, .slice none 0 0, .slice none 0 0, .int .i64 4, .string { data := #[119] }, .int .i64 5, .int .i64 0, .string { data := #[] }, .slice none 0 0, .slice none 0 0, .int .i64 8, .string { data := #[119] }, .int .i64 0, .int .i64 0, .string { data := #[] }, .slice none 0 0, .slice none 0 0, .int .i64 77, .string { data := #[] }, .int .i64 0, .int .i64 0, .string { data := #[] }, .slice none 0 0, .slice none 0 0, .int .i64 1, .string { data := #[] }, .int .i64 0, .int .i64 0, .string { data := #[] }, .slice none 0 0, .slice none 0 0, .int .i64 2, .string { data := #[] }, .int .i64 0, .int .i64 0, .string { data := #[] }, .slice none 0 0, .slice none 0 0] 40) = w3 := ⟨_, rfl⟩
     have hX3 : Ex wr w3 := by rw [← hw3]; exact (Below.refl _ _).alloc (Nat.le_refl _) _
     have HR3 : Hid (RdW 7 pc w3 (some ⟨wr.heap.size, 0, none⟩) 11 lfCv) := (by rw [← hw3]; exact RdW.laid pc_len wr lfCv (by simp [lfCv]) : RdW 7 pc w3 _ 11 lfCv)
     have HOB : Hid (∀ g, u1.ownBlock = some g → w.heap.size ≤ g ∧ g < wr.heap.size) := HQ.out.lt
     have HQ3 : Hid (Pd.OwnQ (fun _ => True) w3 w.heap.size u1 L) := (HQ.out.later hX3 : Pd.OwnQ _ w3 _ _ _)
     have HX3 : Hid (Ex w w3) := (HX.out.trans hX3 : Ex w w3)
     have HS3 : Hid (w.heap.size ≤ w3.heap.size) := (HX3.out.size : w.heap.size ≤ w3.heap.size)
     have HW3 : Hid (wr.alloc (.cells #[.int .i64 9, .string { data := #[120] }, .int .i64 0, .int .i64 0, .string { data := #[] }, .slice none 0 0, .slice none 0 0, .int .i64 9, .string { data := #[115] }, .int .i64 0, .int .i64 0, .string { data := #[] }, .slice none 0 0, .slice none 0 0, .int .i64 9, .string { data := #[119] }, .int .i64 0, .int .i64 0, .string { data := #[] }, .slice none 0 0, .slice none 0 0, .int .i64 7, .string { data := #[115] }, .int .i64 0, .int .i64 0, .string { data := #[] }, .slice none 0 0, .slice none 0 0, .int .i64 6, .string { data := #[120] }, .int .i64 0, .int .i64 0, .string { data := #[98] }, .slice none 0 0, .slice none 0 0, .int .i64 4, .string { data := #[115] }, .int .i64 5, .int .i64 0, .string { data := #[] }, .slice none 0 0, .slice none 0 0, .int .i64 4, .string { data := #[119] }, .int .i64 5, .int .i64 0, .string { data := #[] }, .slice none 0 0, .slice none 0 0, .int .i64 8, .string { data := #[119] }, .int .i64 0, .int .i64 0, .string { data := #[] }, .slice none 0 0, .slice none 0 0, .int .i64 77, .string { data := #[] }, .int .i64 0, .int .i64 0, .string { data := #[] }, .slice none 0 0, .slice none 0 0, .int .i64 1, .string { data := #[] }, .int .i64 0, .int .i64 0, .string { data := #[] }, .slice none 0 0, .slice none 0 0, .int .i64 2, .string { data := #[] }, .int .i64 0, .int .i64 0, .string { data := #[] }, .slice none 0 0, .slice none 0 0] 40) = w3) := hw3
     have hstep : ∀ v9 w9, Pd.OwnQ (fun _ => True) w9 w.heap.size v9 (L ++ lfC) → w3.grownBy w9 u1.ownBlock → Hid (Pd.OwnQ (fun _ => True) w9 w.heap.size v9 (L ++ lfC)) ∧ Hid (Ex w w9) := by
      intro v9 w9 ho9 hg9
      exact ⟨ho9, Below.grown HX3.out hg9 HX3.out.size (fun g hg => by have := (HOB.out g hg).1; omega)⟩
     have HNL : Hid ((L ++ lfC).length = 56) := (by rw [List.length_append, HLq.out]; rfl : (L ++ lfC).length = 56)
     have HNF : Hid (Pd.Fines (L ++ lfC)) := (Pd.Fines.append HFi.out lfC_fine : Pd.Fines _)
     have hln : L.length + 11 ≤ 1000 := by rw [HLq.out]; omega
     clear hX3 hw3
     go_wp2_with (at_builtin; rw [HW3.out]; refine Pd.wpList_append_Q rfl (.tmp 37) (.tmp 49) rfl w.heap.size u1 L rfl HQ3.out (some ⟨wr.heap.size, 0, none⟩) 11 11 lfCv lfC rfl rfl HR3.out (lfC_lay _ _) (by simp only [lfC, List.length_cons, List.length_nil]; omega) HS3.out ?_; intro v9 w9 ho9 hg9 hat9; obtain ⟨HO9, HX9⟩ := hstep v9 w9 ho9 hg9; clear ho9 hg9 hat9)
     go_ret
     obtain ⟨a, cap, vs, rfl, hR, hL⟩ := HO9.out.rd
     exact ⟨a, cap, L ++ lfC, rfl, ⟨vs, hR, hL⟩, HNL.out, HNF.out, HX9.out⟩
end Go.Proofs.Ytibnhjfeepdddaa
