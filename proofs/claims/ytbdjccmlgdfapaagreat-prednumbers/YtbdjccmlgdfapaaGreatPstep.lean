/-
  The landed rightParts and Right. Predicates that a call makes: lists of its own, what lies in them elsewhere; one laid by itself, in a region whose order is open. No function of the program here.
-/
import Derived.Test.YtbdjccmlgdfapaaGreatLright
import Derived.Test.YtbdjccmlgdfapaaGreatStrs
namespace Go.Proofs.YtbdjccmlgdfapaaGreat
open Go.RowKit
set_option linter.unusedVariables false
set_option linter.unusedSimpArgs false
namespace Pd
/-- Each part is one that the callees bear. -/
def Fine : Pr → Prop := rec' fun h l a => HdFit h ∧ l.length ≤ 1000 ∧ ∀ x ∈ a, x
theorem fine_mk (h : Hd) (l : List Pr) : Fine (Pr.mk' h l) ↔ HdFit h ∧ l.length ≤ 1000 ∧ ∀ x ∈ l, Fine x := by
 rw [Fine, rec_mk]
 constructor
 ·rintro ⟨h1, h0, h2⟩
  exact ⟨h1, h0, fun x hx => h2 _ (List.mem_map.2 ⟨x, hx, rfl⟩)⟩
 ·rintro ⟨h1, h0, h2⟩
  refine ⟨h1, h0, fun x hx => ?_⟩
  obtain ⟨y, hy, rfl⟩ := List.mem_map.1 hx
  exact h2 y hy
theorem form_kids {h : Hd} {l : List Pr} (hp : part h l.length = true) (ha : ∀ k ∈ l, form k = true) : form (Pr.mk' h l) = true := by
 rw [form_mk, hp, Bool.true_and, List.all_eq_true]; exact ha
theorem form_kid {h : Hd} {l : List Pr} {k : Pr} (hk : k ∈ l) (hf : form k = false) : form (Pr.mk' h l) = false := by
 rw [form_mk]
 have : l.all form = false := by rw [List.all_eq_false]; exact ⟨k, hk, by rw [hf]; simp⟩
 rw [this, Bool.and_false]
end Pd
set_option maxHeartbeats 4000000 in
set_option maxRecDepth 100000 in
theorem rparts_is : ∀ (p : Pr) (v : PV) (w : World) (o : Bool), Pd.Lay (fun _ => True) p w v → Pd.Fine p → Pd.form p = o →
  Calls Tryz.prog 35 #[pvv v] w fun e w' => e = .returned (.bool o) ∧ Ex w w' := by
 refine Pd.tree ?_
 intro h l ih v w o hL hFi ho
 rw [Pd.fine_mk] at hFi
 obtain ⟨hF, _, hFk⟩ := hFi
 obtain ⟨hHd, hkn, hkB, hkc, hkm, hk0⟩ := hL.head
 obtain ⟨vk, vcol, vn, vm, vs, vset, ⟨p, n, cap⟩⟩ := v
 simp only at hkn hkB hkc hkm hk0
 subst hkn
 have HIH : Hid (∀ k ∈ l, ∀ (v : PV) (w : World) (o : Bool), Pd.Lay (fun _ => True) k w v → Pd.Fine k → Pd.form k = o → Calls Tryz.prog 35 #[pvv v] w fun e w' => e = .returned (.bool o) ∧ Ex w w') := ih
 have HFK : Hid (∀ k ∈ l, Pd.Fine k) := hFk
 have HO : Hid (Pd.form (Pr.mk' h l) = o) := ho
 have HLw : Hid (Pd.Lay (fun _ => True) (Pr.mk' h l) w ⟨vk, vcol, vn, vm, vs, vset, p, l.length, cap⟩) := hL
 obtain ⟨W, hW⟩ : ∃ W, w.alloc (pb ⟨vk, vcol, vn, vm, vs, vset, p, l.length, cap⟩) = W := ⟨_, rfl⟩
 have hXW : Ex w W := by rw [← hW]; exact (Below.refl _ _).alloc (Nat.le_refl _) _
 have HXW : Hid (Ex w W) := hXW
 have HP : Hid (PAt W w.heap.size ⟨vk, vcol, vn, vm, vs, vset, p, l.length, cap⟩) := (by rw [← hW]; exact PAt.new w _ : PAt W w.heap.size _)
 obtain ⟨pt, hpt⟩ : ∃ x, Pd.part h l.length = x := ⟨_, rfl⟩
 have HPT : Hid (Pd.part h l.length = pt) := hpt
 have HC : Hid (Calls Tryz.prog 60 #[pvv ⟨vk, vcol, vn, vm, vs, vset, p, l.length, cap⟩] W fun e w' => e = .returned (.bool pt) ∧ Ex W w') :=
  rpart_is h l.length _ W (hHd.below hXW) hF rfl (by omega) pt hpt
 obtain ⟨p0, p1, p2, p3, p4, p5, p6⟩ := HP.out.all
 simp only at p0 p1 p2 p3 p4 p5 p6
 unfold maxLen at hkm
 clear hL hHd hkB ho ih hXW hpt hF hFk
 unfold pvv
 simp only [sv]
 go_enter Tryz.func35, Tryz.ntmps35
 go_wp2_with fail
 go_at_call 60
 refine Calls.mono HC.out ?_
 rintro e w2 ⟨rfl, hx⟩
 have HX2 : Hid (Ex w w2) := (HXW.out.trans hx : Ex w w2)
 have q6 := (HP.out.below hx).all.2.2.2.2.2.2
 simp only at q6
 clear hx HC p0 p1 p2 p3 p4 p5 p6
 cases pt with
 | false =>
  have HF : Hid (o = false) := (by rw [← HO.out, Pd.form_mk, HPT.out, Bool.false_and] : o = false)
  go_wp2_with fail
  go_ret
  exact ⟨by rw [HF.out]; rfl, HX2.out⟩
 | true =>
  go_wp2_with fail
  go_loopw [11, 4] (fun iv kv wr => ∃ i : Nat, i ≤ l.length ∧ iv = .int .i64 i ∧ Hid (∀ k ∈ l.take i, Pd.form k = true) ∧ Hid (Ex w wr)) (fun iv kv wr => l.length - (intOf iv).toNat)
  case atStart => exact ⟨0, by omega, rfl, (by simp : ∀ k ∈ l.take 0, Pd.form k = true), HX2⟩
  case round =>
   obtain ⟨i, hi, rfl, HA, HXr⟩ := hrel
   by_cases hlt : i < l.length
   ·have hti : (i : Int) < (l.length : Int) := by omega
    have hLr := Pd.Lay.below _ HLw.out HXr.out
    obtain ⟨b, off, u, hpp, hbg, hLk, e0, e1, e2, e3, e4, e5, e6⟩ := hLr.kid hlt
    simp only at hpp
    obtain ⟨k, hk⟩ : ∃ k, l[i] = k := ⟨_, rfl⟩
    rw [hk] at hLk
    have HK : Hid (k ∈ l) := (by rw [← hk]; exact List.getElem_mem hlt : k ∈ l)
    have HNX : Hid (l.take (i + 1) = l.take i ++ [k]) := (by rw [List.take_add_one, List.getElem?_eq_getElem hlt, hk]; rfl : l.take (i + 1) = l.take i ++ [k])
    obtain ⟨w1, hw1⟩ : ∃ w1, wr.alloc (pb u) = w1 := ⟨_, rfl⟩
    have hX1 : Ex wr w1 := by rw [← hw1]; exact (Below.refl _ _).alloc (Nat.le_refl _) _
    have HX1 : Hid (Ex w w1) := (HXr.out.trans hX1 : Ex w w1)
    obtain ⟨x, hx⟩ : ∃ x, Pd.form k = x := ⟨_, rfl⟩
    have HFX : Hid (Pd.form k = x) := hx
    have HC : Hid (Calls Tryz.prog 35 #[pvv u] w1 fun e w' => e = .returned (.bool x) ∧ Ex w1 w') := HIH.out k HK.out u w1 x (Pd.Lay.below _ hLk hX1) (HFK.out k HK.out) hx
    have HP1 : Hid (PAt w1 wr.heap.size u) := (by rw [← hw1]; exact PAt.new wr u : PAt w1 wr.heap.size u)
    obtain ⟨q0, q1, q2, q3, q4, q5, q6⟩ := HP1.out.all
    subst hpp
    clear hLr hLk hk hX1 hbg hx
    go_wp2_with fail
    go_at_call 35
    refine Calls.mono HC.out ?_
    rintro e w3 ⟨rfl, hx⟩
    have HX3 : Hid (Ex w w3) := (HX1.out.trans hx : Ex w w3)
    clear hx HC
    cases x with
    | true =>
     have HA2 : Hid (∀ c ∈ l.take (i + 1), Pd.form c = true) := (by
      intro c hc
      rw [HNX.out] at hc
      rcases List.mem_append.1 hc with hc | hc
      ·exact HA.out c hc
      ·rw [List.mem_singleton] at hc; subst hc; exact HFX.out : ∀ c ∈ l.take (i + 1), Pd.form c = true)
     go_wp2_with fail
     go_roundw
     case rel => exact ⟨i + 1, by omega, by go_num, HA2, HX3⟩
     case measure => simp [intOf]; omega
    | false =>
     have HF : Hid (o = false) := (by rw [← HO.out]; exact Pd.form_kid HK.out HFX.out : o = false)
     go_wp2_with fail
     go_ret
     exact ⟨by rw [HF.out]; rfl, HX3.out⟩
   ·have hti : ¬ (i : Int) < (l.length : Int) := by omega
    have hil : l.take i = l := List.take_of_length_le (by omega)
    have HT : Hid (o = true) := (by rw [← HO.out]; exact Pd.form_kids HPT.out (by have := HA.out; rwa [hil] at this) : o = true)
    clear hil
    go_wp2_with fail
    go_ret
    exact ⟨by rw [HT.out]; rfl, HXr.out⟩
set_option maxHeartbeats 1000000 in
set_option maxRecDepth 100000 in
theorem right_is (p : Pr) (v : PV) (w : World) (h : Pd.Lay (fun _ => True) p w v) (hF : Pd.Fine p) (o : Bool) (ho : Pd.right p = o) : Calls Tryz.prog 9 #[pvv v] w fun e w' => e = .returned (.bool o) ∧ Ex w w' := by
 obtain ⟨vk, vcol, vn, vm, vs, vset, vkids⟩ := v
 obtain ⟨W, hW⟩ : ∃ W, (w.alloc (pb ⟨vk, vcol, vn, vm, vs, vset, vkids⟩)).alloc (.cells #[.int .i64 40] 3) = W := ⟨_, rfl⟩
 have hX1 : Ex w (w.alloc (pb ⟨vk, vcol, vn, vm, vs, vset, vkids⟩)) := (Below.refl _ _).alloc (Nat.le_refl _) _
 have hXW : Ex w W := by rw [← hW]; exact Below.alloc hX1 (by simp) _
 have hsz : (w.alloc (pb ⟨vk, vcol, vn, vm, vs, vset, vkids⟩)).heap.size = w.heap.size + 1 := by simp
 have HIW : Hid (IAt W (w.heap.size + 1) 40) := (by rw [← hW, ← hsz]; exact IAt.new _ _ : IAt W (w.heap.size + 1) 40)
 have HXW : Hid (Ex w W) := hXW
 have HP : Hid (PAt W w.heap.size ⟨vk, vcol, vn, vm, vs, vset, vkids⟩) := (by rw [← hW]; exact (PAt.new w _).alloc _ : PAt W w.heap.size _)
 have HC : Hid (Calls Tryz.prog 34 #[pvv ⟨vk, vcol, vn, vm, vs, vset, vkids⟩, .int .i64 (6 : Nat), .pointer (some ⟨w.heap.size + 1, 0, none⟩)] W fun e w' => e = .returned (.bool (Pd.fit p 6 40)) ∧ FitsR p 6 40 (w.heap.size + 1) W w') :=
  fits_is p _ 6 40 (w.heap.size + 1) W (Pd.Lay.mono (fun b hb => by have := hb.2; omega) _ (Pd.Lay.below _ h.lt hXW)) HIW.out (by omega) (by omega)
 obtain ⟨p0, p1, p2, p3, p4, p5, p6⟩ := HP.out.all
 have i0 := HIW.out.cell
 have i1 := HIW.out.frozen
 obtain ⟨x, hx⟩ : ∃ x, Pd.fit p 6 40 = x := ⟨_, rfl⟩
 have HFX : Hid (Pd.fit p 6 40 = x) := hx
 have HL : Hid (Pd.Lay (fun _ => True) p w ⟨vk, vcol, vn, vm, vs, vset, vkids⟩) := h
 have HF : Hid (Pd.Fine p) := hF
 have HO : Hid ((x && Pd.form p) = o) := (by rw [← ho, ← hx]; rfl : (x && Pd.form p) = o)
 clear h hX1 hXW hsz hx hF ho
 unfold pvv
 simp only [sv]
 go_enter Tryz.func9, Tryz.ntmps9
 go_wp2_with fail
 go_at_call 34
 refine Calls.mono HC.out ?_
 rintro e w2 ⟨rfl, M, hIM, hM, hG⟩
 rw [HFX.out]
 have hX2 : Ex w w2 := Below.grown HXW.out hG HXW.out.size (fun k hk => by simp at hk; omega)
 have HX2 : Hid (Ex w w2) := hX2
 have hP2 : PAt w2 w.heap.size ⟨vk, vcol, vn, vm, vs, vset, vkids⟩ := HP.out.far hG (by simp)
 cases x with
 | false =>
  have HS : Hid (o = false) := (by rw [← HO.out, Bool.false_and] : o = false)
  clear hIM hM hG HC hX2 hP2
  go_wp2_with fail
  go_ret
  exact ⟨by rw [HS.out]; rfl, HX2.out⟩
 | true =>
  have HC2 : Hid (Calls Tryz.prog 35 #[pvv ⟨vk, vcol, vn, vm, vs, vset, vkids⟩] w2 fun e w' => e = .returned (.bool o) ∧ Ex w2 w') := rparts_is p _ w2 o (Pd.Lay.below _ HL.out hX2) HF.out (by have := HO.out; rwa [Bool.true_and] at this)
  obtain ⟨q0, q1, q2, q3, q4, q5, q6⟩ := hP2.all
  clear hIM hM hG HC hX2 hP2 p0 p1 p2 p3 p4 p5 p6 i0 i1
  go_wp2_with fail
  go_at_call 35
  refine Calls.mono HC2.out ?_
  rintro e w3 ⟨rfl, hx⟩
  have HX3 : Hid (Ex w w3) := (HX2.out.trans hx : Ex w w3)
  clear hx HC2
  go_wp2_with fail
  go_ret
  exact ⟨rfl, HX3.out⟩
end Go.Proofs.YtbdjccmlgdfapaaGreat
namespace Go.Proofs.YtbdjccmlgdfapaaGreat
open Go.RowKit
set_option linter.unusedVariables false
set_option linter.unusedSimpArgs false
theorem Tryz.info32 : (Tryz.prog.info? 32).map (fun i => (i.zero, i.size, i.bytes)) = some (some (.agg #[.int .i64 0, .string ⟨#[]⟩, .int .i64 0, .int .i64 0, .string ⟨#[]⟩, .slice none 0 0, .slice none 0 0]), 7, 104) := by kernel_rfl
theorem Tryz.info9 : (Tryz.prog.info? 9).map (fun i => (i.zero, i.size, i.bytes)) = some (some (.string ⟨#[]⟩), 1, 16) := by kernel_rfl
namespace Pd
/-- A call's own predicates; what is in them lies in such blocks, and not in theirs. -/
def OwnQ (B : Nat → Prop) (w : World) (base : Nat) (v : Value) (l : List Pr) : Prop := ∃ vs, OwnW 32 7 pc w base v vs ∧ Lays (fun b => v.ownBlock ≠ some b ∧ B b) w vs l
theorem OwnQ.rd {B : Nat → Prop} {w : World} {base : Nat} {v : Value} {l : List Pr} (h : OwnQ B w base v l) : ∃ a cap vs, v = .slice a l.length cap ∧ RdW 7 pc w a cap vs ∧ Lays B w vs l := by
 obtain ⟨vs, h1, h2⟩ := h
 obtain ⟨a, cap, rfl, h3⟩ := h1.rd pc_len
 exact ⟨a, cap, vs, by rw [h2.1], h3, h2.mono fun _ hb => hb.2⟩
theorem OwnQ.nil (B : Nat → Prop) (w : World) (base : Nat) : OwnQ B w base (.slice none 0 0) [] := ⟨[], ownW_none w base, Lays.nil _ w⟩
theorem OwnQ.later {B : Nat → Prop} {w w' : World} {base : Nat} {v : Value} {l : List Pr} (h : OwnQ B w base v l) (hx : Ex w w') : OwnQ B w' base v l := by
 obtain ⟨vs, h1, h2⟩ := h
 exact ⟨vs, h1.later hx, h2.below hx⟩
theorem OwnQ.lt {B : Nat → Prop} {w : World} {base : Nat} {v : Value} {l : List Pr} (h : OwnQ B w base v l) : ∀ g, v.ownBlock = some g → base ≤ g ∧ g < w.heap.size := by
 obtain ⟨vs, h1, _⟩ := h
 exact h1.lt
/-- Another block is written. -/
theorem OwnQ.far {B : Nat → Prop} {w : World} {base g j : Nat} {v u : Value} {l : List Pr} (h : OwnQ B w base v l) (hg : v.ownBlock ≠ some g) (hB : ¬ B g) : OwnQ B (w.setCell ⟨g, j, none⟩ u) base v l := by
 obtain ⟨vs, h1, h2⟩ := h
 exact ⟨vs, h1.apart hg, h2.far (row := some g) (fun b hb e => hB (by simp at e; rw [e]; exact hb.2)) (grown_set1 w g j u)⟩
theorem OwnQ.mono {B C : Nat → Prop} (hB : ∀ b, B b → C b) {w : World} {base : Nat} {v : Value} {l : List Pr} (h : OwnQ B w base v l) : OwnQ C w base v l := by
 obtain ⟨vs, h1, h2⟩ := h
 exact ⟨vs, h1, h2.mono fun b hb => ⟨hb.1, hB b hb.2⟩⟩
theorem OwnQ.ltB {B : Nat → Prop} {w : World} {base : Nat} {v : Value} {l : List Pr} (h : OwnQ B w base v l) : OwnQ (fun b => B b ∧ b < w.heap.size) w base v l := by
 obtain ⟨vs, h1, h2⟩ := h
 exact ⟨vs, h1, h2.lt.mono fun b hb => ⟨hb.1.1, hb.1.2, hb.2⟩⟩
theorem OwnQ.grown {B : Nat → Prop} {w w' : World} {base g : Nat} {v : Value} {l : List Pr} (h : OwnQ B w base v l) (hg : w.grownBy w' (some g)) (hne : v.ownBlock ≠ some g) (hB : ¬ B g) : OwnQ B w' base v l := by
 obtain ⟨vs, h1, h2⟩ := h
 exact ⟨vs, World.ownsRow.kept h1 hg (.inr hne), h2.far (fun b hb e => hB (by simp at e; rw [e]; exact hb.2)) hg⟩
theorem lays_afterQ {B : Nat → Prop} {w w' : World} {v v' : Value} {vs : List PV} {l : List Pr} (h : Lays (fun b => v.ownBlock ≠ some b ∧ B b) w vs l) (hg : w.grownBy w' v.ownBlock) (hat : v'.ownBlock = v.ownBlock ∨ v'.ownBlock = some w.heap.size) :
  Lays (fun b => v'.ownBlock ≠ some b ∧ B b) w' vs l := by
 rcases hat with hat | hat
 ·rw [hat]; exact h.far (fun b hb => hb.1) hg
 ·refine (h.lt.far (fun b hb => hb.1.1) hg).mono fun b hb => ⟨?_, hb.1.2⟩
  rw [hat]
  intro e
  have := hb.2
  simp at e
  omega
/-- 'append(out, l...)', l whatever predicates that can be read, and lie elsewhere. -/
theorem wpList_append_Q {B : Nat → Prop} {w : World} {ops : Array Oper} {rest : List Oper} {o : Oper} {a : Act} {Q : Exit → Act → World → Prop} (hgd : o.guard = none) (s x : Operand)
  (ho : o.op = .call { callee := .builtin .append, args := #[s, x], argTypes := #[22, 22] }) (base : Nat)
  (v : Value) (xs : List Pr) (hs : a.eval s = v) (hown : OwnQ B w base v xs) (p : Option Addr) (n c : Nat) (us : List PV) (l : List Pr) (hx : a.eval x = .slice p n c) (hn : n = l.length) (hB : RdW 7 pc w p c us) (hL : Lays (fun b => v.ownBlock ≠ some b ∧ B b) w us l)
  (h63 : xs.length + l.length ≤ 1000000) (hbase : base ≤ w.heap.size)
  (h : ∀ v' w', OwnQ B w' base v' (xs ++ l) → w.grownBy w' v.ownBlock → (v'.ownBlock = v.ownBlock ∨ v'.ownBlock = some w.heap.size) → wpList Tryz.prog ops Q rest (a.put o.dst v') w') : wpList Tryz.prog ops Q (o :: rest) a w := by
 obtain ⟨vs, h1, h2⟩ := hown
 have e1 := h2.1
 have e2 := hL.1
 refine wpList_append_wide pc_len pc_one hgd s x 22 _ 104 ho Tryz.underlying22 Tryz.info32 (by decide) rfl base v vs hs h1 p n c us hx (by omega) hB (by unfold maxLen; omega) (by rw [e1, e2]; omega) hbase ?_
 intro v' w' hO hg hat
 exact h v' w' ⟨vs ++ us, hO, lays_afterQ (h2.append hL) hg hat⟩ hg hat
/-- A value is such a predicate. -/
def IsP (B : Nat → Prop) (p : Pr) (v : Value) (w : World) : Prop := ∃ u, v = pvv u ∧ Lay B p w u
theorem IsP.stands (B : Nat → Prop) (p : Pr) : ∀ v w w', IsP B p v w → Ex w w' → IsP B p v w' := by
 rintro v w w' ⟨u, rfl, h⟩ hx
 exact ⟨u, rfl, Lay.below _ h hx⟩
/-- A value is a list of such predicates, in a block that is new. -/
def IsPs (base : Nat) (B : Nat → Prop) (l : List Pr) (v : Value) (w : World) : Prop := ∃ g us, v = .slice (some ⟨g, 0, none⟩) l.length l.length ∧ base ≤ g ∧ RdW 7 pc w (some ⟨g, 0, none⟩) l.length us ∧ Lays B w us l
theorem IsPs.stands (base : Nat) (B : Nat → Prop) (l : List Pr) : ∀ v w w', IsPs base B l v w → Ex w w' → IsPs base B l v w' := by
 rintro v w w' ⟨g, us, rfl, h0, h1, h2⟩ hx
 exact ⟨g, us, rfl, h0, h1.below hx, h2.below hx⟩
end Pd
set_option maxHeartbeats 1000000 in
theorem run_pred1 {o : Oper} (ρ : Operand → Value) (w : World) (x : Operand) (u : PV) (ho : o.op = .buildSlice 22 1 #[(0, x)]) (h2 : ρ x = pvv u) : (execOp ρ o).run Tryz.prog w = .ok (.value (.slice (some ⟨w.heap.size, 0, none⟩) 1 1)) (w.alloc (.cells (flat pc [u]).toArray 32)) := by
 simp [execOp, ho, h2, go_sem, pvv, sv, flat, pc]
set_option maxHeartbeats 1000000 in
theorem run_pred2 {o : Oper} (ρ : Operand → Value) (w : World) (x y : Operand) (u z : PV) (ho : o.op = .buildSlice 22 2 #[(0, x), (1, y)]) (h2 : ρ x = pvv u) (h3 : ρ y = pvv z) : (execOp ρ o).run Tryz.prog w = .ok (.value (.slice (some ⟨w.heap.size, 0, none⟩) 2 2)) (w.alloc (.cells (flat pc [u, z]).toArray 32)) := by
 simp [execOp, ho, h2, h3, go_sem, pvv, sv, flat, pc]
theorem Rg.good_pred1 {ops : Array Oper} {specs : List Rg.Spec} {a0 : Act} {w1 : World} {o : Oper} {x : Operand} {B : Nat → Prop} {p : Pr} (ho : o.op = .buildSlice 22 1 #[(0, x)]) (hg : Rg.guardV ops specs a0 o = some true)
  (hx : Rg.argS ops specs a0 x = .inr (Pd.IsP B p)) : Rg.GoodOp Tryz.prog ops specs a0 (Ex w1) Ex o (.inr (Pd.IsPs w1.heap.size B [p])) :=
 Rg.good_of hg fun Q a w hC hh => by
  have h1 := hh x (by rw [ho]; simp [Op.operands])
  rw [hx] at h1
  obtain ⟨u, hu, hL⟩ := h1
  have hal : Ex w (w.alloc (.cells (flat pc [u]).toArray 32)) := (Below.refl _ _).alloc (Nat.le_refl _) _
  refine Rg.Fr.wp_val (run_pred1 _ w x u ho hu) ⟨.slice (some ⟨w.heap.size, 0, none⟩) 1 1, rfl, ?_, hal, hC.trans hal⟩
  exact ⟨w.heap.size, [u], rfl, hC.size, RdW.laid pc_len w [u] (by simp), Pd.Lays.one (Pd.Lay.below _ hL hal)⟩
theorem Rg.good_pred2 {ops : Array Oper} {specs : List Rg.Spec} {a0 : Act} {w1 : World} {o : Oper} {x y : Operand} {B : Nat → Prop} {p q : Pr} (ho : o.op = .buildSlice 22 2 #[(0, x), (1, y)]) (hg : Rg.guardV ops specs a0 o = some true)
  (hx : Rg.argS ops specs a0 x = .inr (Pd.IsP B p)) (hy : Rg.argS ops specs a0 y = .inr (Pd.IsP B q)) : Rg.GoodOp Tryz.prog ops specs a0 (Ex w1) Ex o (.inr (Pd.IsPs w1.heap.size B [p, q])) :=
 Rg.good_of hg fun Q a w hC hh => by
  have h1 := hh x (by rw [ho]; simp [Op.operands])
  rw [hx] at h1
  have h2 := hh y (by rw [ho]; simp [Op.operands])
  rw [hy] at h2
  obtain ⟨u, hu, hL⟩ := h1
  obtain ⟨z, hz, hL2⟩ := h2
  have hal : Ex w (w.alloc (.cells (flat pc [u, z]).toArray 32)) := (Below.refl _ _).alloc (Nat.le_refl _) _
  refine Rg.Fr.wp_val (run_pred2 _ w x y u z ho hu hz) ⟨.slice (some ⟨w.heap.size, 0, none⟩) 2 2, rfl, ?_, hal, hC.trans hal⟩
  exact ⟨w.heap.size, [u, z], rfl, hC.size, RdW.laid pc_len w [u, z] (by simp), (Pd.Lays.one (Pd.Lay.below _ hL hal)).append (Pd.Lays.one (Pd.Lay.below _ hL2 hal))⟩
end Go.Proofs.YtbdjccmlgdfapaaGreat
