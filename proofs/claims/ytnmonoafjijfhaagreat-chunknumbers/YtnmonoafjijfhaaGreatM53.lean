/-
  What the laws keep of a chunk that is asked while memory behind it is written into; Dict's texts lie apart from the chunk. Taken out of another text of mine: Known. Pick of a chunk that has been read; the laws' own tells. The laws' own few.
-/
import Derived.Test.YtnmonoafjijfhaaGreatM50
import Derived.Test.YtnmonoafjijfhaaGreatM32
import Derived.Deep.Cut
import Derived.Deep.DeepCutAuto
import Derived.Test.YtnmonoafjijfhaaGreatM49
namespace Go.Proofs.YtnmonoafjijfhaaGreat
open Go.RowKit
set_option linter.unusedVariables false
set_option linter.unusedSimpArgs false
/-- Behind Dict: texts of their own beside the chunk. -/
def Dicted (w w' : World) (g : Nat) (b : List UInt8) (fp : Nat → Prop) (v : Value) : Prop :=
  ∃ fp' : Nat → Prop, ChD w' g b fp' ∧ (∀ q, fp' q → (fp q ∨ w.heap.size ≤ q) ∧ v.ownBlock ≠ some q) ∧ OwnR 9 st w' w.heap.size v (LD b) ∧ v.ownBlock ≠ some g ∧ w.grownBy w' (some g)
set_option maxRecDepth 100000 in
set_option maxHeartbeats 4000000 in
theorem dict2_is (g : Nat) (b : List UInt8) (fp : Nat → Prop) (w : World) (h : Chk w g b fp) (hok : Ok b) (r : Bool) (hr : decide ((Ck.lread b).f = 2) = r) :
    Calls Tryz.prog 28 #[.pointer (some ⟨g, 0, none⟩)] w fun e w' => ∃ v, e = .returned (.tuple #[v, .bool r]) ∧ Dicted w w' g b fp v := by
  have HC : Hid (Chk w g b fp) := h
  have HOk : Hid (Ok b) := hok
  obtain ⟨F, hF⟩ : ∃ F, (Ck.lread b).f = F := ⟨_, rfl⟩
  have HF : Hid ((Ck.lread b).f = F) := hF
  rw [hF] at hr
  have hww := hok.2.2.2.2
  have hglt := h.lt
  clear h hok hF
  go_enter Tryz.func28, Tryz.ntmps28
  go_wp2_with fail
  go_at_call 56
  refine (values_is g b fp w HC.out HOk.out).mono ?_
  rintro e2 w2 ⟨rfl, hA⟩
  obtain ⟨fp2, hD2, hf2, hg2⟩ := hA
  have HD2 : Hid (ChD w2 g b (fun q => fp2 q ∧ q < w2.heap.size)) := hD2.tight
  have HF2 : Hid (∀ q, fp2 q → fp q ∨ w.heap.size ≤ q) := hf2
  have HG2 : Hid (w.grownBy w2 (some g)) := hg2
  have hs2 : w.heap.size ≤ w2.heap.size := hg2.size
  obtain ⟨x, y, c6, c7, c8, hic, hiz⟩ := Chk.nine hD2
  rw [HF.out] at c6
  obtain ⟨xa, xn, xc⟩ := x
  have c7' : w2.cell? ⟨g, 7, none⟩ = some (.slice xa xn xc) := c7
  have HIC : Hid (IsC (LW b) (xa, xn, xc) w2) := hic
  clear hD2 hf2 hg2 c7 c8 hic hiz
  by_cases h2 : F = 2
  · have t1 : ((F : Int) == 2) = true := by simp; omega
    have t2 : ((F : Int) != 2) = false := by simp [bne, t1]
    have hr1 : r = true := by rw [← hr]; simp [h2]
    have HLD : Hid (LD b = Ck.t2 (LW b)) := (by unfold LD; rw [HF.out, if_pos h2] : LD b = Ck.t2 (LW b))
    subst hr1
    clear h2 hr
    go_wp2_with fail
    go_at_call 32
    refine (textsOf_is xa xn xc (LW b) w2 HIC.out.1 HIC.out.2 hww).mono ?_
    rintro e3 w3 ⟨v3, rfl, hv3, hx3⟩
    have HV : Hid (OwnR 9 st w3 w2.heap.size v3 (LD b)) := (by rw [HLD.out]; exact hv3 : OwnR 9 st w3 w2.heap.size v3 (LD b))
    have hlt : ∀ q, v3.ownBlock = some q → w2.heap.size ≤ q := fun q hq => (World.ownsRow.lt hv3 q hq).1
    have HA3 : Hid (Dicted w w3 g b fp v3) := (⟨fun q => fp2 q ∧ q < w2.heap.size, HD2.out.below hx3, fun q hq => ⟨HF2.out q hq.1, fun e => by have := hlt q e; omega⟩, ⟨HV.out.1, HV.out.2.elim .inl (fun ⟨q, cap, cur, e1, e2, r⟩ => .inr ⟨q, cap, cur, e1, Nat.le_trans hs2 e2, r⟩)⟩, fun e => by have := hlt g e; omega, grown_tr HG2.out (hx3.grownBy _)⟩ : Dicted w w3 g b fp v3)
    clear hv3 hx3 hlt
    go_wp2_with fail
    go_ret2
    exact ⟨_, rfl, HA3.out⟩
  · have t1 : ((F : Int) == 2) = false := beq_eq_false_iff_ne.2 (by omega)
    have t2 : ((F : Int) != 2) = true := by simp [bne, t1]
    have hr1 : r = false := by rw [← hr]; simp [h2]
    have HLD : Hid (LD b = []) := (by unfold LD; rw [HF.out, if_neg h2] : LD b = [])
    subst hr1
    clear h2 hr
    go_wp2_with fail
    go_ret2
    exact ⟨_, rfl, ⟨fun q => fp2 q ∧ q < w2.heap.size, HD2.out, fun q hq => ⟨HF2.out q hq.1, by simp [Value.ownBlock]⟩, by rw [HLD.out]; exact ⟨by simp, .inl ⟨rfl, rfl⟩⟩, by simp [Value.ownBlock], HG2.out⟩⟩
/-- The chunk g of the bytes b, made behind the place B; cells X and numbers A of blocks ahead of S; what was handed out has the block ne. -/
def PkC (w : World) (S B : Nat) (ne : Option Nat) (g : Nat) (b : List UInt8) (a : Option Addr) (cap : Nat) (X : List Ce) (p : Option Addr) (c : Nat) (A : List Int) (wx : World) : Prop :=
  (∃ fp, Chk wx g b fp ∧ ∀ q, fp q → B ≤ q ∧ ne ≠ some q) ∧ RdC wx a cap X ∧ Rd z64 wx p c A ∧ Ex w wx ∧ (w.heap.size ≤ S ∧ S ≤ B ∧ B ≤ g ∧ ne ≠ some g) ∧
  (0 < X.length → ∀ q off, a = some ⟨q, off, none⟩ → q < S) ∧ (0 < A.length → ∀ q off, p = some ⟨q, off, none⟩ → q < S)
section
variable {w wx w' : World} {S B : Nat} {ne : Option Nat} {g : Nat} {b : List UInt8} {a : Option Addr} {cap : Nat} {X : List Ce} {p : Option Addr} {c : Nat} {A : List Int}
theorem PkC.below (h : PkC w S B ne g b a cap X p c A wx) (hx : Ex wx w') : PkC w S B ne g b a cap X p c A w' := by
  obtain ⟨⟨fp, h1, h2⟩, h3, h4, h5, h6⟩ := h
  exact ⟨⟨fp, h1.below hx, h2⟩, h3.below hx, h4.below hx, h5.trans hx, h6⟩
/-- A block of what is read stays as it was where some other block is written into. -/
theorem PkC.move {g' : Nat} (h : PkC w S B ne g b a cap X p c A wx) (hg : wx.grownBy w' (some g')) (hS : S ≤ g') : RdC w' a cap X ∧ Rd z64 w' p c A ∧ Ex w w' := by
  obtain ⟨_, h3, h4, h5, ⟨k1, _⟩, h6, h7⟩ := h
  have hs := h5.size
  exact ⟨RdW.far h3 hg (fun h0 q off he e => by have := h6 h0 q off he; simp only [Option.some.injEq] at e; omega), rd_far h4 hg (fun h0 q off he e => by have := h7 h0 q off he; simp only [Option.some.injEq] at e; omega), Below.grown h5 hg hs (fun k hk => by simp only [Option.some.injEq] at hk; omega)⟩
theorem PkC.chunk (h : PkC w S B ne g b a cap X p c A wx) {fp' : Nat → Prop} {ne' : Option Nat} (hg : wx.grownBy w' (some g)) (hC : Chk w' g b fp') (hf : ∀ q, fp' q → B ≤ q ∧ ne' ≠ some q) (hne : ne' ≠ some g) : PkC w S B ne' g b a cap X p c A w' := by
  obtain ⟨m1, m2, m3⟩ := h.move hg (by obtain ⟨_, _, _, _, ⟨_, k2, k3, _⟩, _⟩ := h; omega)
  obtain ⟨_, _, _, _, ⟨k1, k2, k3, k4⟩, h6⟩ := h
  exact ⟨⟨fp', hC, hf⟩, m1, m2, m3, ⟨k1, k2, k3, hne⟩, h6⟩
theorem PkC.size (h : PkC w S B ne g b a cap X p c A wx) : B ≤ wx.heap.size ∧ g < wx.heap.size := by
  obtain ⟨⟨fp, h1, _⟩, _, _, _, ⟨_, _, k3, _⟩, _⟩ := h
  have := h1.lt
  omega
theorem PkC.pick (h : PkC w S B ne g b a cap X p c A wx) (hok : Ok b) {n : Nat} (hn : n = A.length) (hl : n ≤ 60) :
    Calls Tryz.prog 27 #[.pointer (some ⟨g, 0, none⟩), .slice p n c] wx fun e w' => ∃ hh, e = .returned (.slice (some ⟨hh, 0, none⟩) n n) ∧ PkC w S B (some hh) g b a cap X p c A w' ∧ CRow w' hh (A.map (LA b)) ∧ B ≤ hh := by
  obtain ⟨⟨fp, h1, h2⟩, _, h4, _, ⟨_, k2, k3, _⟩, _, h7⟩ := id h
  have hs := h.size
  refine (pick_is g b fp p n c A wx h1 hok hn h4 (fun h0 q off he => by have := h7 h0 q off he; omega) (by omega)).mono ?_
  rintro e w' ⟨hh, rfl, fp', c1, c2, c3, c4, c5⟩
  exact ⟨hh, rfl, h.chunk c5 c1 (fun q hq => ⟨(c2 q hq).1.elim (fun h => (h2 q h).1) (fun h => by omega), by have := (c2 q hq).2; simp; omega⟩) (by simp; omega), c3, by omega⟩
end
end Go.Proofs.YtnmonoafjijfhaaGreat
namespace Go.Proofs.YtnmonoafjijfhaaGreat
open Go.RowKit
set_option linter.unusedVariables false

set_option maxRecDepth 100000 in
set_option maxHeartbeats 1000000 in
theorem ktexts_is (a1 a2 : Option Addr) (n1 n2 c1 c2 : Nat) (L M : List (List UInt8)) (w : World) (h1 : n1 = L.length) (h2 : n2 = M.length) (hB1 : Rd st w a1 c1 L) (hB2 : Rd st w a2 c2 M) (r : Bool) (hr : decide (L = M) = r) :
    Calls Tryz.prog 54 #[.slice a1 n1 c1, .slice a2 n2 c2] w fun e w' => e = .returned (.bool r) ∧ Ex w w' := by
  subst h1; subst h2
  have h11 := hB1.1
  have h12 := hB1.2.1
  have h21 := hB2.1
  have h22 := hB2.2.1
  unfold maxLen at h12 h22
  have H1 : Hid (Rd st w a1 c1 L) := hB1
  have H2 : Hid (Rd st w a2 c2 M) := hB2
  have HR : Hid (decide (L = M) = r) := hr
  clear hB1 hB2 hr
  by_cases hl : L.length = M.length
  · have hla : L.length ≤ M.length := by omega
    have hlb : M.length ≤ L.length := by omega
    have t0 : ((L.length : Int) != (M.length : Int)) = false := by simp; omega
    clear hl
    go_enter Tryz.func54, Tryz.ntmps54
    go_wp2_with fail
    go_loopw [5] (fun i wr => ∃ k : Nat, k ≤ L.length ∧ i = .int .i64 k ∧ Hid (∀ i, i < k → L[i]? = M[i]?) ∧ Hid (Ex w wr)) (fun i _ => L.length - (intOf i).toNat)
    case atStart => exact ⟨0, by omega, rfl, (fun i hi => by omega : ∀ i, i < 0 → L[i]? = M[i]?), Ex.refl _⟩
    case round =>
      obtain ⟨k, hk, rfl, HS, HEx⟩ := hrel
      by_cases hlt : k < L.length
      · have tk : decide ((k : Int) < (L.length : Int)) = true := by simp; omega
        obtain ⟨b1, o1, rfl, hce1⟩ := (H1.out.below HEx.out).at hlt
        obtain ⟨b2, o2, rfl, hce2⟩ := (H2.out.below HEx.out).at (k := k) (by omega)
        obtain ⟨x, hx⟩ : ∃ x, x = L[k] := ⟨_, rfl⟩
        obtain ⟨y, hy⟩ : ∃ y, y = M[k]'(by omega) := ⟨_, rfl⟩
        rw [← hx] at hce1
        rw [← hy] at hce2
        have hxk : L[k]? = some x := by rw [hx, List.getElem?_eq_getElem hlt]
        have hyk : M[k]? = some y := by rw [hy]; exact List.getElem?_eq_getElem (by omega)
        have HC1 : Hid (wr.cell? ⟨b1, o1 + k, none⟩ = some (Value.string (str x))) := hce1
        have HC2 : Hid (wr.cell? ⟨b2, o2 + k, none⟩ = some (Value.string (str y))) := hce2
        have HXk : Hid (L[k]? = some x) := hxk
        have HYk : Hid (M[k]? = some y) := hyk
        have hk1 : (k : Int) < (L.length : Int) := by omega
        have hk2 : (k : Int) < (M.length : Int) := by omega
        clear hce1 hce2 hx hy hxk hyk
        by_cases he : x = y
        · subst he
          have HN : Hid (∀ i, i < k + 1 → L[i]? = M[i]?) := (by
            intro i hi
            by_cases h : i < k
            · exact HS.out i h
            · obtain rfl : i = k := by omega
              rw [HXk.out, HYk.out] : ∀ i, i < k + 1 → L[i]? = M[i]?)
          go_wp2_with fail
          have hre := Ex.refl
          refine Rg.wp_rows [.inl (Value.slice (some { block := b1, off := o1 }) L.length c1), .inl (Value.int IntKind.i64 ↑k), .inl (Value.pointer (some ⟨b1, o1 + k, none⟩)), .inl (Value.string (str x)), .inl (Value.slice (some { block := b2, off := o2 }) M.length c2), .inl (Value.int IntKind.i64 ↑k), .inl (Value.pointer (some ⟨b2, o2 + k, none⟩)), .inl (Value.string (str x)), .inl (.bool false)] (Ex wr) Ex 26 (by kernel_rfl) rfl (by kernel_rfl) ?st hre (Ex.drew _) ?goods ?fin
          case st => exact trivial
          case goods =>
            refine Rg.goods_cons (Rg.good_move hre rfl rfl rfl) ?_
            refine Rg.goods_cons (Rg.good_move hre rfl rfl rfl) ?_
            refine Rg.goods_cons (Rg.good_index hre rfl rfl rfl rfl (fun wx hC => by go_simp)) ?_
            refine Rg.goods_cons (Rg.good_load hre rfl rfl rfl (fun wx hC => by have hcz := dcell_ex HC1.out hC; go_simp)) ?_
            refine Rg.goods_cons (Rg.good_move hre rfl rfl rfl) ?_
            refine Rg.goods_cons (Rg.good_move hre rfl rfl rfl) ?_
            refine Rg.goods_cons (Rg.good_index hre rfl rfl rfl rfl (fun wx hC => by go_simp)) ?_
            refine Rg.goods_cons (Rg.good_load hre rfl rfl rfl (fun wx hC => by have hcz := dcell_ex HC2.out hC; go_simp)) ?_
            refine Rg.goods_cons (Rg.good_bin hre rfl rfl rfl rfl (fun _ => rfl) (fun w => by go_simp)) ?_
            exact Rg.goods_nil
          case fin =>
            intro wx hx
            simp only [Rg.later, Act.put, List.setIfInBounds_toArray, List.set_cons_succ, List.set_cons_zero]
            have HXx : Hid (Ex w wx) := HEx.out.trans hx
            clear hx
            go_wp2
            go_roundw
            case rel => exact ⟨k + 1, by omega, by go_num, HN, HXx⟩
            case measure => simp [intOf]; omega
        · have HNe : Hid (¬ x = y) := he
          have hf : decide (L = M) = false := by
            simp only [decide_eq_false_iff_not]
            intro h
            have h1 := HXk.out
            rw [h, HYk.out] at h1
            simp at h1
            exact he h1.symm
          rw [HR.out] at hf
          subst hf
          clear he
          go_wp2_with fail
          have hre := Ex.refl
          refine Rg.wp_rows [.inl (Value.slice (some { block := b1, off := o1 }) L.length c1), .inl (Value.int IntKind.i64 ↑k), .inl (Value.pointer (some ⟨b1, o1 + k, none⟩)), .inl (Value.string (str x)), .inl (Value.slice (some { block := b2, off := o2 }) M.length c2), .inl (Value.int IntKind.i64 ↑k), .inl (Value.pointer (some ⟨b2, o2 + k, none⟩)), .inl (Value.string (str y)), .inl (.bool true)] (Ex wr) Ex 26 (by kernel_rfl) rfl (by kernel_rfl) ?st hre (Ex.drew _) ?goods ?fin
          case st => exact trivial
          case goods =>
            refine Rg.goods_cons (Rg.good_move hre rfl rfl rfl) ?_
            refine Rg.goods_cons (Rg.good_move hre rfl rfl rfl) ?_
            refine Rg.goods_cons (Rg.good_index hre rfl rfl rfl rfl (fun wx hC => by go_simp)) ?_
            refine Rg.goods_cons (Rg.good_load hre rfl rfl rfl (fun wx hC => by have hcz := dcell_ex HC1.out hC; go_simp)) ?_
            refine Rg.goods_cons (Rg.good_move hre rfl rfl rfl) ?_
            refine Rg.goods_cons (Rg.good_move hre rfl rfl rfl) ?_
            refine Rg.goods_cons (Rg.good_index hre rfl rfl rfl rfl (fun wx hC => by go_simp)) ?_
            refine Rg.goods_cons (Rg.good_load hre rfl rfl rfl (fun wx hC => by have hcz := dcell_ex HC2.out hC; go_simp)) ?_
            refine Rg.goods_cons (Rg.good_bin hre rfl rfl rfl rfl (fun _ => rfl) (fun w => by go_simp; rw [str_toList, str_toList]; exact HNe.out)) ?_
            exact Rg.goods_nil
          case fin =>
            intro wx hx
            simp only [Rg.later, Act.put, List.setIfInBounds_toArray, List.set_cons_succ, List.set_cons_zero]
            have HXx : Hid (Ex w wx) := HEx.out.trans hx
            clear hx
            go_wp2
            go_ret
            exact ⟨rfl, HXx.out⟩
      · obtain rfl : k = L.length := by omega
        have ht : decide (L = M) = true := by
          simp only [decide_eq_true_eq]
          apply List.ext_getElem?
          intro i
          by_cases hi : i < L.length
          · exact HS.out i hi
          · rw [List.getElem?_eq_none (by omega), List.getElem?_eq_none (by omega)]
        rw [HR.out] at ht
        subst ht
        go_wp2
        go_ret
        exact ⟨rfl, HEx.out⟩
  · have t0 : ((L.length : Int) != (M.length : Int)) = true := by simp; omega
    have hf : decide (L = M) = false := by
      simp only [decide_eq_false_iff_not]
      intro h; exact hl (by rw [h])
    rw [HR.out] at hf
    subst hf
    go_enter Tryz.func54, Tryz.ntmps54
    go_wp2
    go_ret
    exact ⟨rfl, Ex.refl _⟩

end Go.Proofs.YtnmonoafjijfhaaGreat
namespace Go.Proofs.YtnmonoafjijfhaaGreat
open Go.RowKit
set_option linter.unusedVariables false
set_option linter.unusedSimpArgs false
set_option maxRecDepth 100000 in
set_option maxHeartbeats 4000000 in
theorem pick_d (g : Nat) (b : List UInt8) (fp : Nat → Prop) (a : Option Addr) (n cap : Nat) (L : List Int) (w : World) (h : ChD w g b fp) (hok : Ok b) (hn : n = L.length) (hB : Rd z64 w a cap L) (hl : L.length ≤ 70000) :
    Calls Tryz.prog 27 #[.pointer (some ⟨g, 0, none⟩), .slice a n cap] w fun e w' => ∃ hh, e = .returned (.slice (some ⟨hh, 0, none⟩) n n) ∧ CRow w' hh (L.map (LA b)) ∧ Ex w w' := by
  have HN : Hid (n = L.length) := hn
  have HB : Hid (Rd z64 w a cap L) := hB
  have HOk : Hid (Ok b) := hok
  have HC : Hid (ChD w g b fp) := h
  have hn7 : n ≤ 70000 := by omega
  have hcl : n ≤ cap := by have := hB.1; omega
  have hcm := hB.2.1
  unfold maxLen at hcm
  clear h hok hn hB hl
  go_enter Tryz.func27, Tryz.ntmps27
  go_wp2_with (at_make; refine wpList_make_cells rfl _ _ rfl _ _ n rfl rfl rfl rfl (by omega) ?_; intro w3 hr3 hb3)
  obtain ⟨hh, hg⟩ : ∃ hh, hh = w.heap.size := ⟨_, rfl⟩
  rw [← hg]
  have h0R : Hid (CRow w3 hh ((L.map (LA b)).take 0 ++ List.replicate (n - 0) Rw.none_)) := (by rw [hg]; simpa using hr3 : CRow w3 hh ((L.map (LA b)).take 0 ++ List.replicate (n - 0) Rw.none_))
  have h0G : Hid (Ex w w3) := hb3
  have hhw : w.heap.size ≤ hh := by omega
  clear hr3 hb3 hg
  go_loopw [6, 7, 13] (fun iv2 pv iv wr => ∃ (i : Nat), i ≤ n ∧ iv = .int .i64 (i : Int) ∧ Hid (CRow wr hh ((L.map (LA b)).take i ++ List.replicate (n - i) Rw.none_)) ∧ Hid (Ex w wr)) (fun iv2 pv iv wr => n - (intOf iv).toNat)
  case atStart => exact ⟨0, by omega, rfl, h0R, h0G⟩
  case round =>
    obtain ⟨i, hi, rfl, HRo, HG⟩ := hrel
    clear h0R h0G
    by_cases hlt : i < n
    · have ti : (i : Int) < (n : Int) := by omega
      have hlt2 : i < L.length := by rw [← HN.out]; exact hlt
      have hrd : Rd z64 wr a cap L := HB.out.below HG.out
      obtain ⟨bq, off, rfl, hc⟩ := hrd.at hlt2
      obtain ⟨V, hV⟩ : ∃ V, L[i] = V := ⟨_, rfl⟩
      rw [hV] at hc
      have hc' : wr.cell? ⟨bq, off + i, none⟩ = some (.int .i64 V) := hc
      obtain ⟨d, hd⟩ : ∃ d, LA b V = d := ⟨_, rfl⟩
      have htk := LA_take (b := b) hlt2
      rw [hV, hd] at htk
      have HTk : Hid ((L.map (LA b)).take (i + 1) = (L.map (LA b)).take i ++ [d]) := htk
      have HD : Hid (LA b V = d) := hd
      have HC1 : Hid (ChD wr g b fp) := HC.out.below HG.out
      clear hd htk hV hc hrd
      go_wp2_with fail
      go_at_call 22
      refine (cell_d g b fp V wr HC1.out HOk.out).mono ?_
      rw [HD.out]
      rintro e5 w5 ⟨rfl, hx5⟩
      have hR5 : CRow w5 hh ((L.map (LA b)).take i ++ List.replicate (n - i) Rw.none_) := HRo.out.below hx5
      have hal : ((L.map (LA b)).take i).length = i := by rw [List.length_take, List.length_map]; omega
      have hll : i < ((L.map (LA b)).take i ++ List.replicate (n - i) Rw.none_).length := by simp [hal]; omega
      obtain ⟨z0, z1, z2, z3⟩ := hR5.four hll
      have f0 := hR5.fro (i * 4)
      have f1 := hR5.fro (i * 4 + 1)
      have f2 := hR5.fro (i * 4 + 2)
      have f3 := hR5.fro (i * 4 + 3)
      obtain ⟨m1, hm1⟩ : ∃ m1, n - i = m1 + 1 := ⟨n - i - 1, by omega⟩
      have hR9 : CRow (cset4 w5 hh (i * 4) d) hh ((L.map (LA b)).take (i + 1) ++ List.replicate (n - (i + 1)) Rw.none_) := by
        have h := hR5.set4 hll d
        rw [hm1, fillz_set _ m1 i _ d hal.symm, ← HTk.out] at h
        rw [show n - (i + 1) = m1 by omega]
        exact h
      have HR9 : Hid (CRow (cset4 w5 hh (i * 4) d) hh ((L.map (LA b)).take (i + 1) ++ List.replicate (n - (i + 1)) Rw.none_)) := hR9
      have HG9 : Hid (Ex w (cset4 w5 hh (i * 4) d)) := Below.cset4 (HG.out.trans hx5) hhw (i * 4) d
      generalize (((L.map (LA b)).take i ++ List.replicate (n - i) Rw.none_)[i]'hll) = zc at z0 z1 z2 z3
      clear hx5 hR5 hal hll hm1 hR9 HRo HG
      unfold cv
      go_wp2_with fail
      go_roundw
      case rel => exact ⟨i + 1, by omega, by go_num, HR9, HG9⟩
      case measure => simp [intOf]; omega
    · have ti : ¬ (i : Int) < (n : Int) := by omega
      have him : i = n := by omega
      have hro := HRo.out
      rw [him, Nat.sub_self, List.replicate_zero, List.append_nil, List.take_of_length_le (by rw [List.length_map]; exact Nat.le_of_eq HN.out.symm)] at hro
      have HRF : Hid (CRow wr hh (L.map (LA b))) := hro
      clear hro him HRo
      go_wp2_with fail
      go_ret
      exact ⟨hh, rfl, HRF.out, HG.out⟩
/-- The places that tells asks last: from the end to the beginning, one more at either side. -/
def ats (n i : Nat) : List Int := (List.range i).map fun k : Nat => (n : Int) - (k : Int)
theorem ats_len (n i : Nat) : (ats n i).length = i := by simp [ats]
theorem ats_succ (n i : Nat) : ats n (i + 1) = ats n i ++ [(n : Int) - (i : Int)] := by unfold ats; rw [List.range_succ, List.map_append]; rfl
theorem After.later {w w1 w2 : World} {g : Nat} {b : List UInt8} {fp : Nat → Prop} (h : After w w1 g b fp) (hx : Ex w1 w2) : After w w2 g b fp := by
  obtain ⟨fp', h1, h2, h3⟩ := h
  exact ⟨fp', h1.below hx, h2, grown_tr h3 (hx.grownBy _)⟩
set_option maxRecDepth 100000 in
set_option maxHeartbeats 8000000 in
theorem tells_is (g : Nat) (b : List UInt8) (fp : Nat → Prop) (kind : Int) (al : Option Addr) (nl cl : Nat) (l : List Ce) (ad : Option Addr) (nd cd : Nat) (d : List (List UInt8)) (w : World)
    (h : Chk w g b fp) (hok : Ok b) (hk : LK b = kind) (hn : nl = l.length) (hl : LC b = l) (hB : RdC w al cl l) (hnl : 0 < l.length → ∀ q off, al = some ⟨q, off, none⟩ → q ≠ g) (hnd : nd = d.length) (hd : LD b = d) (hB2 : Rd st w ad cd d) (hnd2 : 0 < d.length → ∀ q off, ad = some ⟨q, off, none⟩ → q ≠ g) :
    Calls Tryz.prog 13 #[.pointer (some ⟨g, 0, none⟩), .int .i64 kind, .slice al nl cl, .slice ad nd cd] w fun e w' => e = .returned (.bool true) ∧ After w w' g b fp := by
  have HC : Hid (Chk w g b fp) := h
  have HOk : Hid (Ok b) := hok
  have HK : Hid (LK b = kind) := hk
  have HN : Hid (nl = l.length) := hn
  have HL : Hid (LC b = l) := hl
  have HB : Hid (RdC w al cl l) := hB
  have HND : Hid (nd = d.length) := hnd
  have HD : Hid (LD b = d) := hd
  have HB2 : Hid (Rd st w ad cd d) := hB2
  have HNe : Hid (0 < l.length → ∀ q off, al = some ⟨q, off, none⟩ → q ≠ g) := hnl
  have HNe2 : Hid (0 < d.length → ∀ q off, ad = some ⟨q, off, none⟩ → q ≠ g) := hnd2
  have hl6 : nl ≤ 65536 := by rw [hn, ← hl, LC_len]; exact hok.2.2.1
  obtain ⟨r, hr⟩ : ∃ r, decide ((Ck.lread b).f = 2) = r := ⟨_, rfl⟩
  have HR : Hid (decide ((Ck.lread b).f = 2) = r) := hr
  have hr0 : r = false → nd = 0 := by
    intro e
    rw [e] at hr
    have : ¬ (Ck.lread b).f = 2 := by simpa using hr
    rw [hnd, ← hd]; unfold LD; rw [if_neg this]; rfl
  have hcl : nl ≤ cl := by have := hB.1; omega
  have hcm := hB.2.1
  have hdl : nd ≤ cd := by have := hB2.1; omega
  have hdm := hB2.2.1
  unfold maxLen at hcm hdm
  clear h hok hk hn hl hB hnd hd hB2 hnl hnd2 hr
  go_enter Tryz.func13, Tryz.ntmps13
  go_wp2_with fail
  go_at_call 28
  refine (dict2_is g b fp w HC.out HOk.out r HR.out).mono ?_
  rintro e1 w1 ⟨v1, rfl, fp1, hD1, hf1, hO1, hg1, hG1⟩
  obtain ⟨ax, cx, rfl, hrx⟩ := hO1.rd
  obtain ⟨nx, hnx⟩ : ∃ nx, (LD b).length = nx := ⟨_, rfl⟩
  rw [hnx]
  have HNX : Hid ((LD b).length = nx) := hnx
  have HRX : Hid (Rd st w1 ax cx (LD b)) := hrx
  have HD1 : Hid (ChD w1 g b fp1) := hD1
  have HA1 : Hid (After w w1 g b fp) := (⟨fp1, .inr hD1, fun q hq => (hf1 q hq).1, hG1⟩ : After w w1 g b fp)
  have HB1 : Hid (RdC w1 al cl l) := RdW.far HB.out hG1 (fun h0 q off he hh => HNe.out h0 q off he (by simp only [Option.some.injEq] at hh; omega))
  have HB21 : Hid (Rd st w1 ad cd d) := rd_far HB2.out hG1 (fun h0 q off he hh => HNe2.out h0 q off he (by simp only [Option.some.injEq] at hh; omega))
  clear hrx hnx hD1 hf1 hO1 hg1 hG1 HB HB2 HC
  have hT : decide (LD b = d) = true := by simp [HD.out]
  have HT : Hid (decide (LD b = d) = true) := hT
  have hLl : (LC b).length = nl := by rw [HL.out]; exact HN.out.symm
  have HLl : Hid ((LC b).length = nl) := hLl
  clear hT hLl
  go_upto_region 2 with fail
  go_cut [46] (fun v wc => v = .bool false ∧ Hid (Ex w1 wc))
  case first =>
    go_wp2_with fail
    go_at_call 53
    refine (kind_is g b fp1 w1 (.inr HD1.out)).mono ?_
    rintro e2 wq ⟨rfl, hwq⟩
    have hwq' := hwq.symm; clear hwq; subst hwq'
    rw [HK.out]
    go_wp2_with fail
    go_at_call 20
    refine (rows_is g b fp1 w1 (.inr HD1.out)).mono ?_
    rintro e3 wp ⟨rfl, hwp⟩
    have hwp' := hwp.symm; clear hwp; subst hwp'
    rw [HLl.out]
    go_wp2_with fail
    go_at_call 54
    refine (ktexts_is ax ad nx nd cx cd (LD b) d w1 HNX.out.symm HND.out HRX.out HB21.out true HT.out).mono ?_
    rintro e4 w4 ⟨rfl, hx4⟩
    have HX4 : Hid (Ex w1 w4) := hx4
    clear hx4
    cases r with
    | true =>
      go_wp2_with fail
      go_meet
      exact ⟨rfl, HX4⟩
    | false =>
      have h0 := hr0 rfl
      subst h0
      go_wp2_with fail
      go_meet
      exact ⟨rfl, HX4⟩
  case rest =>
    obtain ⟨rfl, HX4⟩ := hcut
    obtain ⟨W2, hW2⟩ : ∃ W, W = wc := ⟨_, rfl⟩
    subst hW2
    have HD2 : Hid (ChD W2 g b fp1) := HD1.out.below HX4.out
    have HA2 : Hid (After w W2 g b fp) := HA1.out.later HX4.out
    have HB2 : Hid (RdC W2 al cl l) := HB1.out.below HX4.out
    clear HX4 HA1 HB1 HB21 HRX HD1 hr0
    have h0O : Hid (OwnR 3 z64 W2 W2.heap.size (.slice none 0 0) (ats nl 0)) := (World.ownsRow_nil _ _ _ _ : OwnR 3 z64 W2 W2.heap.size (.slice none 0 0) (ats nl 0))
    go_wp2_with fail
    go_loopw [11, 12, 13] (fun av iv _ wr => ∃ (i : Nat) (J : Int), -1 ≤ J ∧ J ≤ (nl : Int) + 1 ∧ iv = .int .i64 J ∧ Hid (J = (i : Int) - 1) ∧ Hid (OwnR 3 z64 wr W2.heap.size av (ats nl i)) ∧ Hid (Ex W2 wr)) (fun av iv _ wr => ((nl : Int) + 1 - intOf iv).toNat)
    case atStart => exact ⟨0, -1, by omega, by omega, rfl, rfl, h0O, Ex.refl _⟩
    case round =>
      clear h0O
      obtain ⟨i, J, hJ1, hJ2, rfl, HJ, HO, HX⟩ := hrel
      by_cases hlt : J ≤ (nl : Int)
      · have hi2 : i ≤ nl + 1 := by have := HJ.out; omega
        have HDr : Hid (ChD (wr.alloc (cb (LA b J))) g b fp1) := HD2.out.below (Ex.trans HX.out ((Below.refl _ _).alloc (Nat.le_refl _) _))
        have HEA : Hid (EAt (wr.alloc (cb (LA b J))) wr.heap.size (LA b J)) := EAt.new wr (LA b J)
        by_cases hin : 0 ≤ J ∧ J < (nl : Int)
        · obtain ⟨hV0, hVX⟩ := hin
          obtain ⟨j, rfl⟩ : ∃ j : Nat, J = j := ⟨J.toNat, by omega⟩
          have hjl : j < l.length := by have := HN.out; omega
          have hla : LA b (j : Int) = l[j] := by
            unfold LA
            rw [HL.out, if_neg (by omega)]
            simp [List.getD, hjl]
          obtain ⟨bq, off, hax, x0, x1, x2, x3⟩ := RdC.four (HB2.out.below HX.out) hjl
          rw [hla] at HDr HEA
          obtain ⟨d', hd'⟩ : ∃ d, l[j] = d := ⟨_, rfl⟩
          rw [hd'] at x0 x1 x2 x3 hla HDr HEA
          have HLA : Hid (LA b (j : Int) = d') := hla
          have hbx := World.block_lt_of_cell? _ _ x0
          have E0 : ∀ o, (wr.alloc o).cell? ⟨bq, off + j * 4, none⟩ = some (.string (str d'.col)) := fun o => by rw [World.cell?_alloc_past _ _ _ hbx]; exact x0
          have E1 : ∀ o, (wr.alloc o).cell? ⟨bq, off + j * 4 + 1, none⟩ = some (.int .i64 d'.k) := fun o => by rw [World.cell?_alloc_past _ _ _ hbx]; exact x1
          have E2 : ∀ o, (wr.alloc o).cell? ⟨bq, off + j * 4 + 2, none⟩ = some (.int .i64 d'.n) := fun o => by rw [World.cell?_alloc_past _ _ _ hbx]; exact x2
          have E3 : ∀ o, (wr.alloc o).cell? ⟨bq, off + j * 4 + 3, none⟩ = some (.string (str d'.s)) := fun o => by rw [World.cell?_alloc_past _ _ _ hbx]; exact x3
          subst hax
          clear hd' hla x0 x1 x2 x3 hbx
          go_wp2_with fail
          have hre := Ex.refl
          refine Rg.wp_rows [.inl (.pointer (some ⟨g, 0, none⟩)), .inl (.int .i64 (j : Int)), .inl (cv d'), .inl (cv d'), .inl (.bool false)] (Ex (wr.alloc (cb d'))) Ex 104 (by kernel_rfl) rfl (by kernel_rfl) ?st1 hre (Ex.drew _) ?goods1 ?fin1
          case st1 => exact trivial
          case goods1 =>
            refine Rg.goods_cons (Rg.good_move hre rfl rfl rfl) ?_
            refine Rg.goods_cons (Rg.good_move hre rfl rfl rfl) ?_
            refine Rg.goods_cons (Rg.good_call2 Tryz.func22 (by kernel_rfl) rfl rfl rfl (by rintro u u2 wx hC rfl rfl; refine (cell_d g b fp1 _ wx (HDr.out.below hC) HOk.out).mono ?_; rintro e w' ⟨rfl, hx⟩; rw [HLA.out]; exact ⟨_, rfl, rfl, hx, Ex.trans hC hx⟩)) ?_
            refine Rg.goods_cons (Rg.good_load hre rfl rfl rfl (fun wx hC => by obtain ⟨z0, z1, z2, z3⟩ := (HEA.out.below hC).all; exact loadI_cell z0 z1 z2 z3)) ?_
            refine Rg.goods_cons (Rg.good_bin hre rfl rfl rfl rfl (fun w => guard_cell _ _ _ d' d' w) (fun w => neq_cell d' d' false (by simp) w)) ?_
            exact Rg.goods_nil
          case fin1 =>
            intro wy hy
            have HO8 : Hid (OwnR 3 z64 wy W2.heap.size u11 (ats nl i)) := (OwnR.alloc HO.out _).later hy
            have HX8 : Hid (Ex W2 wy) := Ex.trans (Below.alloc HX.out HX.out.size _) hy
            clear hy hre HO HX HDr HEA HLA
            simp only [Rg.later, Act.put, List.setIfInBounds_toArray, List.set_cons_succ, List.set_cons_zero]
            have hs8 : W2.heap.size ≤ wy.heap.size := HX8.out.size
            go_wp2_with (at_builtin; refine wpList_append_rd (e := 3) (enc := z64) rfl (.tmp 71) (.tmp 77) 62 rfl 0 8 Tryz.underlying62 Tryz.info3 rfl (fun _ => rfl) W2.heap.size _ (ats nl i) rfl (OwnR.alloc HO8.out _) _ _ _ [(nl : Int) - 1 - (j : Int)] rfl rfl (Rd.laid wy 3 [(nl : Int) - 1 - (j : Int)] (by simp)) (by rw [ats_len]; simp [maxLen]; omega) (by rw [ats_len]; simp; omega) (by simp; omega) ?_; intro v9 w9 ho9 hg9; have X9 : Ex W2 w9 := step_belowR (Below.alloc HX8.out hs8 _) (by simp; omega) (OwnR.alloc HO8.out _) hg9; clear hg9)
            have HO9 : Hid (OwnR 3 z64 w9 W2.heap.size v9 (ats nl (i + 1))) := (by have e : (nl : Int) - 1 - (j : Int) = (nl : Int) - (i : Int) := (by have := HJ.out; omega); rw [e, ← ats_succ] at ho9; exact ho9 : OwnR 3 z64 w9 W2.heap.size v9 (ats nl (i + 1)))
            have HX9 : Hid (Ex W2 w9) := X9
            clear ho9 X9 HO8 HX8
            go_roundw
            case rel => exact ⟨i + 1, (j : Int) + 1, by omega, by omega, rfl, (by have := HJ.out; omega : (j : Int) + 1 = ((i + 1 : Nat) : Int) - 1), HO9, HX9⟩
            case measure => simp [intOf]; omega
        · have hla : LA b J = Rw.none_ := LA_out (by rw [HLl.out]; omega)
          rw [hla] at HDr HEA
          have HLA : Hid (LA b J = Rw.none_) := hla
          clear hla
          by_cases hV0 : 0 ≤ J
          · have hVX : ¬ J < (nl : Int) := by omega
            clear hin
            go_wp2_with fail
            have hre := Ex.refl
            refine Rg.wp_rows [.inl (.pointer (some ⟨g, 0, none⟩)), .inl (.int .i64 J), .inl (cv Rw.none_), .inl (cv Rw.none_), .inl (.bool false)] (Ex (wr.alloc (cb Rw.none_))) Ex 104 (by kernel_rfl) rfl (by kernel_rfl) ?st2 hre (Ex.drew _) ?goods2 ?fin2
            case st2 => exact trivial
            case goods2 =>
              refine Rg.goods_cons (Rg.good_move hre rfl rfl rfl) ?_
              refine Rg.goods_cons (Rg.good_move hre rfl rfl rfl) ?_
              refine Rg.goods_cons (Rg.good_call2 Tryz.func22 (by kernel_rfl) rfl rfl rfl (by rintro u u2 wx hC rfl rfl; refine (cell_d g b fp1 _ wx (HDr.out.below hC) HOk.out).mono ?_; rintro e w' ⟨rfl, hx⟩; rw [HLA.out]; exact ⟨_, rfl, rfl, hx, Ex.trans hC hx⟩)) ?_
              refine Rg.goods_cons (Rg.good_load hre rfl rfl rfl (fun wx hC => by obtain ⟨z0, z1, z2, z3⟩ := (HEA.out.below hC).all; exact loadI_cell z0 z1 z2 z3)) ?_
              refine Rg.goods_cons (Rg.good_bin hre rfl rfl rfl rfl (fun w => guard_cell _ _ _ Rw.none_ Rw.none_ w) (fun w => neq_cell Rw.none_ Rw.none_ false (by simp) w)) ?_
              exact Rg.goods_nil
            case fin2 =>
              intro wy hy
              have HO8 : Hid (OwnR 3 z64 wy W2.heap.size u11 (ats nl i)) := (OwnR.alloc HO.out _).later hy
              have HX8 : Hid (Ex W2 wy) := Ex.trans (Below.alloc HX.out HX.out.size _) hy
              clear hy hre HO HX HDr HEA HLA
              simp only [Rg.later, Act.put, List.setIfInBounds_toArray, List.set_cons_succ, List.set_cons_zero]
              have hs8 : W2.heap.size ≤ wy.heap.size := HX8.out.size
              go_wp2_with (at_builtin; refine wpList_append_rd (e := 3) (enc := z64) rfl (.tmp 71) (.tmp 77) 62 rfl 0 8 Tryz.underlying62 Tryz.info3 rfl (fun _ => rfl) W2.heap.size _ (ats nl i) rfl (OwnR.alloc HO8.out _) _ _ _ [(nl : Int) - 1 - J] rfl rfl (Rd.laid wy 3 [(nl : Int) - 1 - J] (by simp)) (by rw [ats_len]; simp [maxLen]; omega) (by rw [ats_len]; simp; omega) (by simp; omega) ?_; intro v9 w9 ho9 hg9; have X9 : Ex W2 w9 := step_belowR (Below.alloc HX8.out hs8 _) (by simp; omega) (OwnR.alloc HO8.out _) hg9; clear hg9)
              have HO9 : Hid (OwnR 3 z64 w9 W2.heap.size v9 (ats nl (i + 1))) := (by have e : (nl : Int) - 1 - J = (nl : Int) - (i : Int) := (by have := HJ.out; omega); rw [e, ← ats_succ] at ho9; exact ho9 : OwnR 3 z64 w9 W2.heap.size v9 (ats nl (i + 1)))
              have HX9 : Hid (Ex W2 w9) := X9
              clear ho9 X9 HO8 HX8
              go_roundw
              case rel => exact ⟨i + 1, J + 1, by omega, by omega, rfl, (by have := HJ.out; omega : J + 1 = ((i + 1 : Nat) : Int) - 1), HO9, HX9⟩
              case measure => simp [intOf]; omega
          · clear hin
            go_wp2_with fail
            have hre := Ex.refl
            refine Rg.wp_rows [.inl (.pointer (some ⟨g, 0, none⟩)), .inl (.int .i64 J), .inl (cv Rw.none_), .inl (cv Rw.none_), .inl (.bool false)] (Ex (wr.alloc (cb Rw.none_))) Ex 104 (by kernel_rfl) rfl (by kernel_rfl) ?st3 hre (Ex.drew _) ?goods3 ?fin3
            case st3 => exact trivial
            case goods3 =>
              refine Rg.goods_cons (Rg.good_move hre rfl rfl rfl) ?_
              refine Rg.goods_cons (Rg.good_move hre rfl rfl rfl) ?_
              refine Rg.goods_cons (Rg.good_call2 Tryz.func22 (by kernel_rfl) rfl rfl rfl (by rintro u u2 wx hC rfl rfl; refine (cell_d g b fp1 _ wx (HDr.out.below hC) HOk.out).mono ?_; rintro e w' ⟨rfl, hx⟩; rw [HLA.out]; exact ⟨_, rfl, rfl, hx, Ex.trans hC hx⟩)) ?_
              refine Rg.goods_cons (Rg.good_load hre rfl rfl rfl (fun wx hC => by obtain ⟨z0, z1, z2, z3⟩ := (HEA.out.below hC).all; exact loadI_cell z0 z1 z2 z3)) ?_
              refine Rg.goods_cons (Rg.good_bin hre rfl rfl rfl rfl (fun w => guard_cell _ _ _ Rw.none_ Rw.none_ w) (fun w => neq_cell Rw.none_ Rw.none_ false (by simp) w)) ?_
              exact Rg.goods_nil
            case fin3 =>
              intro wy hy
              have HO8 : Hid (OwnR 3 z64 wy W2.heap.size u11 (ats nl i)) := (OwnR.alloc HO.out _).later hy
              have HX8 : Hid (Ex W2 wy) := Ex.trans (Below.alloc HX.out HX.out.size _) hy
              clear hy hre HO HX HDr HEA HLA
              simp only [Rg.later, Act.put, List.setIfInBounds_toArray, List.set_cons_succ, List.set_cons_zero]
              have hs8 : W2.heap.size ≤ wy.heap.size := HX8.out.size
              go_wp2_with (at_builtin; refine wpList_append_rd (e := 3) (enc := z64) rfl (.tmp 71) (.tmp 77) 62 rfl 0 8 Tryz.underlying62 Tryz.info3 rfl (fun _ => rfl) W2.heap.size _ (ats nl i) rfl (OwnR.alloc HO8.out _) _ _ _ [(nl : Int) - 1 - J] rfl rfl (Rd.laid wy 3 [(nl : Int) - 1 - J] (by simp)) (by rw [ats_len]; simp [maxLen]; omega) (by rw [ats_len]; simp; omega) (by simp; omega) ?_; intro v9 w9 ho9 hg9; have X9 : Ex W2 w9 := step_belowR (Below.alloc HX8.out hs8 _) (by simp; omega) (OwnR.alloc HO8.out _) hg9; clear hg9)
              have HO9 : Hid (OwnR 3 z64 w9 W2.heap.size v9 (ats nl (i + 1))) := (by have e : (nl : Int) - 1 - J = (nl : Int) - (i : Int) := (by have := HJ.out; omega); rw [e, ← ats_succ] at ho9; exact ho9 : OwnR 3 z64 w9 W2.heap.size v9 (ats nl (i + 1)))
              have HX9 : Hid (Ex W2 w9) := X9
              clear ho9 X9 HO8 HX8
              go_roundw
              case rel => exact ⟨i + 1, J + 1, by omega, by omega, rfl, (by have := HJ.out; omega : J + 1 = ((i + 1 : Nat) : Int) - 1), HO9, HX9⟩
              case measure => simp [intOf]; omega
      · have HI2 : Hid (i = nl + 2) := (by have := HJ.out; omega : i = nl + 2)
        have hi6 : i ≤ 65538 := by have := HJ.out; omega
        obtain ⟨aa, ca, rfl, hra⟩ := HO.out.rd
        rw [ats_len]
        have HRA : Hid (Rd z64 wr aa ca (ats nl i)) := hra
        have hia : i ≤ ca := by have := hra.1; rw [ats_len] at this; exact this
        have hcam := hra.2.1
        unfold maxLen at hcam
        clear hra HO
        go_wp2_with fail
        go_at_call 27
        refine (pick_d g b fp1 aa i ca (ats nl i) wr (HD2.out.below HX.out) HOk.out (ats_len nl i).symm HRA.out (by rw [ats_len]; omega)).mono ?_
        rintro e7 w7 ⟨hh, rfl, hR7, hx7⟩
        have HR7 : Hid (CRow w7 hh ((ats nl i).map (LA b))) := hR7
        have HX7 : Hid (Ex W2 w7) := HX.out.trans hx7
        have HRA7 : Hid (Rd z64 w7 aa ca (ats nl i)) := HRA.out.below hx7
        have HD7 : Hid (ChD w7 g b fp1) := HD2.out.below HX7.out
        clear hR7 hx7 HX HRA HD2
        go_wp2_with fail
        go_loopw [15] (fun kv wr => ∃ k : Nat, k ≤ i ∧ kv = .int .i64 (k : Int) ∧ Hid (Ex w7 wr)) (fun kv wr => i - (intOf kv).toNat)
        case atStart => exact ⟨0, by omega, rfl, Ex.refl _⟩
        case round =>
          obtain ⟨k, hk, rfl, HX⟩ := hrel
          by_cases hltk : k < i
          · have tk : (k : Int) < (i : Int) := by omega
            have hka : k < (ats nl i).length := by rw [ats_len]; exact hltk
            obtain ⟨ba, oa, rfl, hc⟩ := HRA7.out.at hka
            obtain ⟨V, hV⟩ : ∃ V, (ats nl i)[k] = V := ⟨_, rfl⟩
            rw [hV] at hc
            have hkm : k < ((ats nl i).map (LA b)).length := by rw [List.length_map]; exact hka
            obtain ⟨z0, z1, z2, z3⟩ := HR7.out.four hkm
            have hmd : ((ats nl i).map (LA b))[k] = LA b V := by rw [List.getElem_map, hV]
            obtain ⟨d', hd'⟩ : ∃ d', LA b V = d' := ⟨_, rfl⟩
            rw [hmd, hd'] at z0 z1 z2 z3
            have HLA : Hid (LA b V = d') := hd'
            have HZ : Hid (∀ wx, Ex w7 wx → (Instr.loadAt 28 (.pointer (some ⟨hh, k * 4, none⟩))).run Tryz.prog wx = .ok (cv d') wx) := (fun wx h => loadI_cell (cell_ext z0 h) (cell_ext z1 h) (cell_ext z2 h) (cell_ext z3 h) : ∀ wx, Ex w7 wx → (Instr.loadAt 28 (.pointer (some ⟨hh, k * 4, none⟩))).run Tryz.prog wx = .ok (cv d') wx)
            have HCA : Hid (∀ wx, Ex w7 wx → wx.cell? ⟨ba, oa + k, none⟩ = some (.int .i64 V)) := (fun wx h => cell_ext hc h : ∀ wx, Ex w7 wx → wx.cell? ⟨ba, oa + k, none⟩ = some (.int .i64 V))
            clear hV hc hkm z0 z1 z2 z3 hmd hd' hka
            go_wp2_with fail
            have hre := Ex.refl
            refine Rg.wp_rows [.inl (.slice (some ⟨hh, 0, none⟩) i i), .inl (.int .i64 (k : Int)), .inl (.pointer (some ⟨hh, k * 4, none⟩)), .inl (cv d'), .inl (.pointer (some ⟨g, 0, none⟩)), .inl (.slice (some ⟨ba, oa, none⟩) i ca), .inl (.int .i64 (k : Int)), .inl (.pointer (some ⟨ba, oa + k, none⟩)), .inl (.int .i64 V), .inl (cv d'), .inl (.bool false)] (Ex w7) Ex 104 (by kernel_rfl) rfl (by kernel_rfl) ?stz hre (HX.out.trans (Ex.drew _)) ?goodsz ?finz
            case stz => exact trivial
            case goodsz =>
              refine Rg.goods_cons (Rg.good_move hre rfl rfl rfl) ?_
              refine Rg.goods_cons (Rg.good_move hre rfl rfl rfl) ?_
              refine Rg.goods_cons (Rg.good_index hre rfl rfl rfl rfl (fun wx hC => by go_simp)) ?_
              refine Rg.goods_cons (Rg.good_load hre rfl rfl rfl (fun wx hC => HZ.out wx hC)) ?_
              refine Rg.goods_cons (Rg.good_move hre rfl rfl rfl) ?_
              refine Rg.goods_cons (Rg.good_move hre rfl rfl rfl) ?_
              refine Rg.goods_cons (Rg.good_move hre rfl rfl rfl) ?_
              refine Rg.goods_cons (Rg.good_index hre rfl rfl rfl rfl (fun wx hC => by go_simp)) ?_
              refine Rg.goods_cons (Rg.good_load hre rfl rfl rfl (fun wx hC => by have hz := HCA.out wx hC; go_simp)) ?_
              refine Rg.goods_cons (Rg.good_call2 Tryz.func22 (by kernel_rfl) rfl rfl rfl (by rintro u u2 wx hC rfl rfl; refine (cell_d g b fp1 _ wx (HD7.out.below hC) HOk.out).mono ?_; rintro e w' ⟨rfl, hx⟩; rw [HLA.out]; exact ⟨_, rfl, rfl, hx, Ex.trans hC hx⟩)) ?_
              refine Rg.goods_cons (Rg.good_bin hre rfl rfl rfl rfl (fun w => guard_cell _ _ _ d' d' w) (fun w => neq_cell d' d' false (by simp) w)) ?_
              exact Rg.goods_nil
            case finz =>
              intro wy hy
              have HXy : Hid (Ex w7 wy) := hy
              clear hy hre HX HZ HCA HLA
              simp only [Rg.later, Act.put, List.setIfInBounds_toArray, List.set_cons_succ, List.set_cons_zero]
              go_wp2_with fail
              go_roundw
              case rel => exact ⟨k + 1, by omega, by go_num, HXy⟩
              case measure => simp [intOf]; omega
          · have tk : ¬ (k : Int) < (i : Int) := by omega
            go_wp2_with fail
            go_ret
            exact ⟨rfl, HA2.out.later (HX7.out.trans HX.out)⟩
end Go.Proofs.YtnmonoafjijfhaaGreat
namespace Go.Proofs.YtnmonoafjijfhaaGreat
open Go.RowKit
set_option linter.unusedVariables false
set_option linter.unusedSimpArgs false
/-- A cell as few leaves it. -/
def fewC (c : Ce) : Ce := ⟨[], c.k, c.n, c.s.take 41⟩
end Go.Proofs.YtnmonoafjijfhaaGreat
