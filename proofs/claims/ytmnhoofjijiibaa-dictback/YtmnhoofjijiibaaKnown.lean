/-
  The statements' own small functions: few, Texts, Same of numbers, short, known.
-/
import Derived.Test.YtmnhoofjijiibaaFace
import Derived.Test.YtmnhoofjijiibaaBook
namespace Go.Proofs.Ytmnhoofjijiibaa
open Go.RowKit
set_option linter.unusedVariables false

set_option maxRecDepth 100000 in
set_option maxHeartbeats 1000000 in
theorem texts_is (a1 a2 : Option Addr) (n1 n2 c1 c2 : Nat) (L M : List (List UInt8)) (w : World) (h1 : n1 = L.length) (h2 : n2 = M.length) (hB1 : Rd st w a1 c1 L) (hB2 : Rd st w a2 c2 M) (r : Bool) (hr : decide (L = M) = r) :
    Calls Try.prog 17 #[.slice a1 n1 c1, .slice a2 n2 c2] w fun e w' => e = .returned (.bool r) ∧ Ex w w' := by
  subst h1; subst h2
  have h11 := hB1.1
  have h12 := hB1.2.1
  have h21 := hB2.1
  have h22 := hB2.2.1
  unfold maxLen at h12 h22
  have H1 : Hid (Rd st w a1 c1 L) := hB1
  have H2 : Hid (Rd st w a2 c2 M) := hB2
  have HR : Hid (decide (L = M) = r) := hr
  clear hB1 hB2 hr
  by_cases hl : L.length = M.length
  · have hla : L.length ≤ M.length := by omega
    have hlb : M.length ≤ L.length := by omega
    have t0 : ((L.length : Int) != (M.length : Int)) = false := by simp; omega
    clear hl
    go_enter Try.func17, Try.ntmps17
    go_wp2_with fail
    go_loopw [5] (fun i wr => ∃ k : Nat, k ≤ L.length ∧ i = .int .i64 k ∧ Hid (∀ i, i < k → L[i]? = M[i]?) ∧ Hid (Ex w wr)) (fun i _ => L.length - (intOf i).toNat)
    case atStart => exact ⟨0, by omega, rfl, (fun i hi => by omega : ∀ i, i < 0 → L[i]? = M[i]?), Ex.refl _⟩
    case round =>
      obtain ⟨k, hk, rfl, HS, HEx⟩ := hrel
      by_cases hlt : k < L.length
      · have tk : decide ((k : Int) < (L.length : Int)) = true := by simp; omega
        obtain ⟨b1, o1, rfl, hce1⟩ := (H1.out.below HEx.out).at hlt
        obtain ⟨b2, o2, rfl, hce2⟩ := (H2.out.below HEx.out).at (k := k) (by omega)
        obtain ⟨x, hx⟩ : ∃ x, x = L[k] := ⟨_, rfl⟩
        obtain ⟨y, hy⟩ : ∃ y, y = M[k]'(by omega) := ⟨_, rfl⟩
        rw [← hx] at hce1
        rw [← hy] at hce2
        have hxk : L[k]? = some x := by rw [hx, List.getElem?_eq_getElem hlt]
        have hyk : M[k]? = some y := by rw [hy]; exact List.getElem?_eq_getElem (by omega)
        have HC1 : Hid (wr.cell? ⟨b1, o1 + k, none⟩ = some (Value.string (str x))) := hce1
        have HC2 : Hid (wr.cell? ⟨b2, o2 + k, none⟩ = some (Value.string (str y))) := hce2
        have HXk : Hid (L[k]? = some x) := hxk
        have HYk : Hid (M[k]? = some y) := hyk
        have hk1 : (k : Int) < (L.length : Int) := by omega
        have hk2 : (k : Int) < (M.length : Int) := by omega
        clear hce1 hce2 hx hy hxk hyk
        by_cases he : x = y
        · subst he
          have HN : Hid (∀ i, i < k + 1 → L[i]? = M[i]?) := (by
            intro i hi
            by_cases h : i < k
            · exact HS.out i h
            · obtain rfl : i = k := by omega
              rw [HXk.out, HYk.out] : ∀ i, i < k + 1 → L[i]? = M[i]?)
          go_wp2_with fail
          have hre := Ex.refl
          refine Rg.wp_rows [.inl (Value.slice (some { block := b1, off := o1 }) L.length c1), .inl (Value.int IntKind.i64 ↑k), .inl (Value.pointer (some ⟨b1, o1 + k, none⟩)), .inl (Value.string (str x)), .inl (Value.slice (some { block := b2, off := o2 }) M.length c2), .inl (Value.int IntKind.i64 ↑k), .inl (Value.pointer (some ⟨b2, o2 + k, none⟩)), .inl (Value.string (str x)), .inl (.bool false)] (Ex wr) Ex 26 (by kernel_rfl) rfl (by kernel_rfl) ?st hre (Ex.drew _) ?goods ?fin
          case st => exact trivial
          case goods =>
            refine Rg.goods_cons (Rg.good_move hre rfl rfl rfl) ?_
            refine Rg.goods_cons (Rg.good_move hre rfl rfl rfl) ?_
            refine Rg.goods_cons (Rg.good_index hre rfl rfl rfl rfl (fun wx hC => by go_simp)) ?_
            refine Rg.goods_cons (Rg.good_load hre rfl rfl rfl (fun wx hC => by have hcz := cell_ex HC1.out hC; go_simp)) ?_
            refine Rg.goods_cons (Rg.good_move hre rfl rfl rfl) ?_
            refine Rg.goods_cons (Rg.good_move hre rfl rfl rfl) ?_
            refine Rg.goods_cons (Rg.good_index hre rfl rfl rfl rfl (fun wx hC => by go_simp)) ?_
            refine Rg.goods_cons (Rg.good_load hre rfl rfl rfl (fun wx hC => by have hcz := cell_ex HC2.out hC; go_simp)) ?_
            refine Rg.goods_cons (Rg.good_bin hre rfl rfl rfl rfl (fun _ => rfl) (fun w => by go_simp)) ?_
            exact Rg.goods_nil
          case fin =>
            intro wx hx
            simp only [Rg.later, Act.put, List.setIfInBounds_toArray, List.set_cons_succ, List.set_cons_zero]
            have HXx : Hid (Ex w wx) := HEx.out.trans hx
            clear hx
            go_wp2
            go_roundw
            case rel => exact ⟨k + 1, by omega, by go_num, HN, HXx⟩
            case measure => simp [intOf]; omega
        · have HNe : Hid (¬ x = y) := he
          have hf : decide (L = M) = false := by
            simp only [decide_eq_false_iff_not]
            intro h
            have h1 := HXk.out
            rw [h, HYk.out] at h1
            simp at h1
            exact he h1.symm
          rw [HR.out] at hf
          subst hf
          clear he
          go_wp2_with fail
          have hre := Ex.refl
          refine Rg.wp_rows [.inl (Value.slice (some { block := b1, off := o1 }) L.length c1), .inl (Value.int IntKind.i64 ↑k), .inl (Value.pointer (some ⟨b1, o1 + k, none⟩)), .inl (Value.string (str x)), .inl (Value.slice (some { block := b2, off := o2 }) M.length c2), .inl (Value.int IntKind.i64 ↑k), .inl (Value.pointer (some ⟨b2, o2 + k, none⟩)), .inl (Value.string (str y)), .inl (.bool true)] (Ex wr) Ex 26 (by kernel_rfl) rfl (by kernel_rfl) ?st hre (Ex.drew _) ?goods ?fin
          case st => exact trivial
          case goods =>
            refine Rg.goods_cons (Rg.good_move hre rfl rfl rfl) ?_
            refine Rg.goods_cons (Rg.good_move hre rfl rfl rfl) ?_
            refine Rg.goods_cons (Rg.good_index hre rfl rfl rfl rfl (fun wx hC => by go_simp)) ?_
            refine Rg.goods_cons (Rg.good_load hre rfl rfl rfl (fun wx hC => by have hcz := cell_ex HC1.out hC; go_simp)) ?_
            refine Rg.goods_cons (Rg.good_move hre rfl rfl rfl) ?_
            refine Rg.goods_cons (Rg.good_move hre rfl rfl rfl) ?_
            refine Rg.goods_cons (Rg.good_index hre rfl rfl rfl rfl (fun wx hC => by go_simp)) ?_
            refine Rg.goods_cons (Rg.good_load hre rfl rfl rfl (fun wx hC => by have hcz := cell_ex HC2.out hC; go_simp)) ?_
            refine Rg.goods_cons (Rg.good_bin hre rfl rfl rfl rfl (fun _ => rfl) (fun w => by go_simp; rw [str_toList, str_toList]; exact HNe.out)) ?_
            exact Rg.goods_nil
          case fin =>
            intro wx hx
            simp only [Rg.later, Act.put, List.setIfInBounds_toArray, List.set_cons_succ, List.set_cons_zero]
            have HXx : Hid (Ex w wx) := HEx.out.trans hx
            clear hx
            go_wp2
            go_ret
            exact ⟨rfl, HXx.out⟩
      · obtain rfl : k = L.length := by omega
        have ht : decide (L = M) = true := by
          simp only [decide_eq_true_eq]
          apply List.ext_getElem?
          intro i
          by_cases hi : i < L.length
          · exact HS.out i hi
          · rw [List.getElem?_eq_none (by omega), List.getElem?_eq_none (by omega)]
        rw [HR.out] at ht
        subst ht
        go_wp2
        go_ret
        exact ⟨rfl, HEx.out⟩
  · have t0 : ((L.length : Int) != (M.length : Int)) = true := by simp; omega
    have hf : decide (L = M) = false := by
      simp only [decide_eq_false_iff_not]
      intro h; exact hl (by rw [h])
    rw [HR.out] at hf
    subst hf
    go_enter Try.func17, Try.ntmps17
    go_wp2
    go_ret
    exact ⟨rfl, Ex.refl _⟩

set_option maxRecDepth 100000 in
set_option maxHeartbeats 1000000 in
theorem sameInt_is (a1 a2 : Option Addr) (n1 n2 c1 c2 : Nat) (L M : List (Int)) (w : World) (h1 : n1 = L.length) (h2 : n2 = M.length) (hB1 : Rd z64 w a1 c1 L) (hB2 : Rd z64 w a2 c2 M) (r : Bool) (hr : decide (L = M) = r) :
    Calls Try.prog 18 #[.slice a1 n1 c1, .slice a2 n2 c2] w fun e w' => e = .returned (.bool r) ∧ Ex w w' := by
  subst h1; subst h2
  have h11 := hB1.1
  have h12 := hB1.2.1
  have h21 := hB2.1
  have h22 := hB2.2.1
  unfold maxLen at h12 h22
  have H1 : Hid (Rd z64 w a1 c1 L) := hB1
  have H2 : Hid (Rd z64 w a2 c2 M) := hB2
  have HR : Hid (decide (L = M) = r) := hr
  clear hB1 hB2 hr
  by_cases hl : L.length = M.length
  · have hla : L.length ≤ M.length := by omega
    have hlb : M.length ≤ L.length := by omega
    have t0 : ((L.length : Int) != (M.length : Int)) = false := by simp; omega
    clear hl
    go_enter Try.func18, Try.ntmps18
    go_wp2_with fail
    go_loopw [5] (fun i wr => ∃ k : Nat, k ≤ L.length ∧ i = .int .i64 k ∧ Hid (∀ i, i < k → L[i]? = M[i]?) ∧ Hid (Ex w wr)) (fun i _ => L.length - (intOf i).toNat)
    case atStart => exact ⟨0, by omega, rfl, (fun i hi => by omega : ∀ i, i < 0 → L[i]? = M[i]?), Ex.refl _⟩
    case round =>
      obtain ⟨k, hk, rfl, HS, HEx⟩ := hrel
      by_cases hlt : k < L.length
      · have tk : decide ((k : Int) < (L.length : Int)) = true := by simp; omega
        obtain ⟨b1, o1, rfl, hce1⟩ := (H1.out.below HEx.out).at hlt
        obtain ⟨b2, o2, rfl, hce2⟩ := (H2.out.below HEx.out).at (k := k) (by omega)
        obtain ⟨x, hx⟩ : ∃ x, x = L[k] := ⟨_, rfl⟩
        obtain ⟨y, hy⟩ : ∃ y, y = M[k]'(by omega) := ⟨_, rfl⟩
        rw [← hx] at hce1
        rw [← hy] at hce2
        have hxk : L[k]? = some x := by rw [hx, List.getElem?_eq_getElem hlt]
        have hyk : M[k]? = some y := by rw [hy]; exact List.getElem?_eq_getElem (by omega)
        have HC1 : Hid (wr.cell? ⟨b1, o1 + k, none⟩ = some (Value.int IntKind.i64 x)) := hce1
        have HC2 : Hid (wr.cell? ⟨b2, o2 + k, none⟩ = some (Value.int IntKind.i64 y)) := hce2
        have HXk : Hid (L[k]? = some x) := hxk
        have HYk : Hid (M[k]? = some y) := hyk
        have hk1 : (k : Int) < (L.length : Int) := by omega
        have hk2 : (k : Int) < (M.length : Int) := by omega
        clear hce1 hce2 hx hy hxk hyk
        by_cases he : x = y
        · subst he
          have HN : Hid (∀ i, i < k + 1 → L[i]? = M[i]?) := (by
            intro i hi
            by_cases h : i < k
            · exact HS.out i h
            · obtain rfl : i = k := by omega
              rw [HXk.out, HYk.out] : ∀ i, i < k + 1 → L[i]? = M[i]?)
          go_wp2_with fail
          have hre := Ex.refl
          refine Rg.wp_rows [.inl (Value.slice (some { block := b1, off := o1 }) L.length c1), .inl (Value.int IntKind.i64 ↑k), .inl (Value.pointer (some ⟨b1, o1 + k, none⟩)), .inl (Value.int IntKind.i64 x), .inl (Value.slice (some { block := b2, off := o2 }) M.length c2), .inl (Value.int IntKind.i64 ↑k), .inl (Value.pointer (some ⟨b2, o2 + k, none⟩)), .inl (Value.int IntKind.i64 x), .inl (.bool false)] (Ex wr) Ex 26 (by kernel_rfl) rfl (by kernel_rfl) ?st hre (Ex.drew _) ?goods ?fin
          case st => exact trivial
          case goods =>
            refine Rg.goods_cons (Rg.good_move hre rfl rfl rfl) ?_
            refine Rg.goods_cons (Rg.good_move hre rfl rfl rfl) ?_
            refine Rg.goods_cons (Rg.good_index hre rfl rfl rfl rfl (fun wx hC => by go_simp)) ?_
            refine Rg.goods_cons (Rg.good_load hre rfl rfl rfl (fun wx hC => by have hcz := cell_ex HC1.out hC; go_simp)) ?_
            refine Rg.goods_cons (Rg.good_move hre rfl rfl rfl) ?_
            refine Rg.goods_cons (Rg.good_move hre rfl rfl rfl) ?_
            refine Rg.goods_cons (Rg.good_index hre rfl rfl rfl rfl (fun wx hC => by go_simp)) ?_
            refine Rg.goods_cons (Rg.good_load hre rfl rfl rfl (fun wx hC => by have hcz := cell_ex HC2.out hC; go_simp)) ?_
            refine Rg.goods_cons (Rg.good_bin hre rfl rfl rfl rfl (fun _ => rfl) (fun w => by go_simp)) ?_
            exact Rg.goods_nil
          case fin =>
            intro wx hx
            simp only [Rg.later, Act.put, List.setIfInBounds_toArray, List.set_cons_succ, List.set_cons_zero]
            have HXx : Hid (Ex w wx) := HEx.out.trans hx
            clear hx
            go_wp2
            go_roundw
            case rel => exact ⟨k + 1, by omega, by go_num, HN, HXx⟩
            case measure => simp [intOf]; omega
        · have HNe : Hid (¬ x = y) := he
          have hf : decide (L = M) = false := by
            simp only [decide_eq_false_iff_not]
            intro h
            have h1 := HXk.out
            rw [h, HYk.out] at h1
            simp at h1
            exact he h1.symm
          rw [HR.out] at hf
          subst hf
          clear he
          go_wp2_with fail
          have hre := Ex.refl
          refine Rg.wp_rows [.inl (Value.slice (some { block := b1, off := o1 }) L.length c1), .inl (Value.int IntKind.i64 ↑k), .inl (Value.pointer (some ⟨b1, o1 + k, none⟩)), .inl (Value.int IntKind.i64 x), .inl (Value.slice (some { block := b2, off := o2 }) M.length c2), .inl (Value.int IntKind.i64 ↑k), .inl (Value.pointer (some ⟨b2, o2 + k, none⟩)), .inl (Value.int IntKind.i64 y), .inl (.bool true)] (Ex wr) Ex 26 (by kernel_rfl) rfl (by kernel_rfl) ?st hre (Ex.drew _) ?goods ?fin
          case st => exact trivial
          case goods =>
            refine Rg.goods_cons (Rg.good_move hre rfl rfl rfl) ?_
            refine Rg.goods_cons (Rg.good_move hre rfl rfl rfl) ?_
            refine Rg.goods_cons (Rg.good_index hre rfl rfl rfl rfl (fun wx hC => by go_simp)) ?_
            refine Rg.goods_cons (Rg.good_load hre rfl rfl rfl (fun wx hC => by have hcz := cell_ex HC1.out hC; go_simp)) ?_
            refine Rg.goods_cons (Rg.good_move hre rfl rfl rfl) ?_
            refine Rg.goods_cons (Rg.good_move hre rfl rfl rfl) ?_
            refine Rg.goods_cons (Rg.good_index hre rfl rfl rfl rfl (fun wx hC => by go_simp)) ?_
            refine Rg.goods_cons (Rg.good_load hre rfl rfl rfl (fun wx hC => by have hcz := cell_ex HC2.out hC; go_simp)) ?_
            refine Rg.goods_cons (Rg.good_bin hre rfl rfl rfl rfl (fun _ => rfl) (fun w => by go_simp; exact HNe.out)) ?_
            exact Rg.goods_nil
          case fin =>
            intro wx hx
            simp only [Rg.later, Act.put, List.setIfInBounds_toArray, List.set_cons_succ, List.set_cons_zero]
            have HXx : Hid (Ex w wx) := HEx.out.trans hx
            clear hx
            go_wp2
            go_ret
            exact ⟨rfl, HXx.out⟩
      · obtain rfl : k = L.length := by omega
        have ht : decide (L = M) = true := by
          simp only [decide_eq_true_eq]
          apply List.ext_getElem?
          intro i
          by_cases hi : i < L.length
          · exact HS.out i hi
          · rw [List.getElem?_eq_none (by omega), List.getElem?_eq_none (by omega)]
        rw [HR.out] at ht
        subst ht
        go_wp2
        go_ret
        exact ⟨rfl, HEx.out⟩
  · have t0 : ((L.length : Int) != (M.length : Int)) = true := by simp; omega
    have hf : decide (L = M) = false := by
      simp only [decide_eq_false_iff_not]
      intro h; exact hl (by rw [h])
    rw [HR.out] at hf
    subst hf
    go_enter Try.func18, Try.ntmps18
    go_wp2
    go_ret
    exact ⟨rfl, Ex.refl _⟩

/-- The texts of which the statements speak: forty at most, each of 41 bytes at most. -/
def cutTexts (l : List (List UInt8)) : List (List UInt8) := (l.take 40).map (·.take 41)
theorem cutTexts_short (l : List (List UInt8)) : ∀ x ∈ cutTexts l, x.length ≤ 41 := by
  intro x hx
  simp only [cutTexts, List.mem_map] at hx
  obtain ⟨y, _, rfl⟩ := hx
  simp; omega
theorem cutTexts_len (l : List (List UInt8)) : (cutTexts l).length = min 40 l.length := by simp [cutTexts]
theorem cutTexts_at {l : List (List UInt8)} {k : Nat} (hk : k < l.length) (h10 : k < 40) : (cutTexts l).take (k + 1) = (cutTexts l).take k ++ [(l[k]).take 41] := by
  have hc : k < (cutTexts l).length := by rw [cutTexts_len]; omega
  rw [List.take_succ_eq_append_getElem hc]
  congr 2
  simp [cutTexts]

set_option maxRecDepth 100000 in
set_option maxHeartbeats 1000000 in
theorem few_is (a : Option Addr) (n cap : Nat) (l : List (List UInt8)) (w : World) (hn : n = l.length) (hB : Rd st w a cap l) (hs : ∀ s ∈ l, s.length ≤ maxLen) (r : List (List UInt8)) (hr : cutTexts l = r) :
    Calls Try.prog 8 #[.slice a n cap] w fun e w' => ∃ v, e = .returned v ∧ IsRd st r v w' ∧ Ex w w' := by
  subst hn
  obtain ⟨base, hbase⟩ : ∃ base, base = w.heap.size := ⟨_, rfl⟩
  have HBa : Hid (base = w.heap.size) := hbase
  have HB : Hid (Rd st w a cap l) := hB
  have HS : Hid (∀ s ∈ l, s.length ≤ maxLen) := hs
  have HR : Hid (cutTexts l = r) := hr
  have hcl := hB.1
  have hcm := hB.2.1
  unfold maxLen at hcm
  have hO0 : Hid (OwnR 9 st w base (.slice none 0 0) ((cutTexts l).take 0)) := (⟨by simp, .inl ⟨rfl, rfl⟩⟩ : OwnR 9 st w base (.slice none 0 0) ((cutTexts l).take 0))
  have hB0 : Hid (Below base w w) := Below.refl _ _
  clear hB hs hr hbase
  go_enter Try.func8, Try.ntmps8
  go_wp2_with fail
  go_loopw [3, 4] (fun v i wr => ∃ k : Nat, k ≤ l.length ∧ k ≤ 40 ∧ i = .int .i64 k ∧ Hid (OwnR 9 st wr base v ((cutTexts l).take k)) ∧ Hid (Below base w wr)) (fun _ i _ => l.length - (intOf i).toNat)
  case atStart => exact ⟨0, by omega, by omega, rfl, hO0, hB0⟩
  case round =>
    obtain ⟨k, hk, hk40, rfl, HO, HBl⟩ := hrel
    clear hO0 hB0
    have hEx : Ex w wr := by have := HBl.out; rw [HBa.out] at this; exact this
    have hsz : base ≤ wr.heap.size := by rw [HBa.out]; exact hEx.size
    have HEx : Hid (Ex w wr) := hEx
    clear hEx
    by_cases hlt : k < l.length ∧ k < 40
    · have hk1 := hlt.1
      have hk2 := hlt.2
      have t1 : decide ((k : Int) < (l.length : Int)) = true := by simp; omega
      have t2 : decide ((k : Int) < 40) = true := by simp; omega
      obtain ⟨b, off, rfl, hc⟩ := (HB.out.below HEx.out).at hk1
      obtain ⟨s, hs⟩ : ∃ s, s = l[k] := ⟨_, rfl⟩
      rw [← hs] at hc
      have hc' : wr.cell? ⟨b, off + k, none⟩ = some (.string (str s)) := hc
      have hsl : s.length ≤ maxLen := by rw [hs]; exact HS.out _ (List.getElem_mem hk1)
      unfold maxLen at hsl
      have hss : (str s).size = s.length := str_size s
      obtain ⟨x, hx⟩ : ∃ x, s.take 41 = x := ⟨_, rfl⟩
      have HN : Hid ((cutTexts l).take (k + 1) = (cutTexts l).take k ++ [x]) := (by rw [cutTexts_at hk1 hk2, ← hs, hx] : (cutTexts l).take (k + 1) = (cutTexts l).take k ++ [x])
      have hki : (k : Int) < (l.length : Int) := by omega
      have hov := HO.out
      have hcut : (str s).extract 0 41 = str x := by rw [str_cut, hx]
      have htl : ((cutTexts l).take k).length ≤ 40 := by simp; omega
      by_cases h41 : 41 < s.length
      · have t3 : decide (41 < (s.length : Int)) = true := by simp; omega
        clear hc hs hx hlt
        go_wp2_with (at_builtin; refine wpList_append_rd (e := 9) (enc := st) rfl (.tmp 25) (.tmp 27) 22 rfl [] 16 Try.underlying22 Try.info9 rfl (fun _ => rfl) base _ ((cutTexts l).take k) rfl (hov.alloc _) _ _ _ [x] rfl rfl (Rd.laid wr 9 [x] (by simp)) (by simp [maxLen]; omega) (by simp; omega) (by simp; omega) ?_; intro v9 w9 ho9 hg9; have X9 : Below base w w9 := step_belowR (Below.alloc HBl.out hsz _) (by simp; omega) (hov.alloc _) hg9; clear hg9)
        have HO9 : Hid (OwnR 9 st w9 base v9 ((cutTexts l).take (k + 1))) := (by rw [HN.out]; exact ho9 : OwnR 9 st w9 base v9 ((cutTexts l).take (k + 1)))
        have HX9 : Hid (Below base w w9) := X9
        clear ho9 X9 hov
        go_wp2
        go_roundw
        case rel => exact ⟨k + 1, by omega, by omega, by go_num, HO9, HX9⟩
        case measure => simp [intOf]; omega
      · have t3 : decide (41 < (s.length : Int)) = false := by simp; omega
        have hxs : x = s := by rw [← hx]; exact List.take_of_length_le (by omega)
        subst hxs
        clear hc hs hx hlt hcut
        go_wp2_with (at_builtin; refine wpList_append_rd (e := 9) (enc := st) rfl (.tmp 25) (.tmp 27) 22 rfl [] 16 Try.underlying22 Try.info9 rfl (fun _ => rfl) base _ ((cutTexts l).take k) rfl (hov.alloc _) _ _ _ [x] rfl rfl (Rd.laid wr 9 [x] (by simp)) (by simp [maxLen]; omega) (by simp; omega) (by simp; omega) ?_; intro v9 w9 ho9 hg9; have X9 : Below base w w9 := step_belowR (Below.alloc HBl.out hsz _) (by simp; omega) (hov.alloc _) hg9; clear hg9)
        have HO9 : Hid (OwnR 9 st w9 base v9 ((cutTexts l).take (k + 1))) := (by rw [HN.out]; exact ho9 : OwnR 9 st w9 base v9 ((cutTexts l).take (k + 1)))
        have HX9 : Hid (Below base w w9) := X9
        clear ho9 X9 hov
        go_wp2
        go_roundw
        case rel => exact ⟨k + 1, by omega, by omega, by go_num, HO9, HX9⟩
        case measure => simp [intOf]; omega
    · have hfin := HO.out.rd
      rw [List.take_of_length_le (by rw [cutTexts_len]; omega), HR.out] at hfin
      obtain ⟨af, cf, hvf, hbf⟩ := hfin
      subst hvf
      have HF : Hid (Rd st wr af cf r) := hbf
      clear hbf HO
      by_cases h1 : k < l.length
      · have t1 : decide ((k : Int) < (l.length : Int)) = true := by simp; omega
        have t2 : decide ((k : Int) < 40) = false := by simp; omega
        have hki : (k : Int) < (l.length : Int) := by omega
        go_wp2
        go_ret
        exact ⟨_, rfl, ⟨af, cf, rfl, HF.out⟩, HEx.out⟩
      · have t1 : decide ((k : Int) < (l.length : Int)) = false := by simp; omega
        go_wp2
        go_ret
        exact ⟨_, rfl, ⟨af, cf, rfl, HF.out⟩, HEx.out⟩

set_option maxRecDepth 100000 in
theorem shortD_is (a : Option Addr) (n cap : Nat) (d : List (List UInt8)) (w : World) (hn : n = d.length) (hB : Rd st w a cap d) (hd : ∀ x ∈ d, x.length ≤ maxLen) (r : Bool) (hr : d.all (fun s => decide (s.length ≤ 40)) = r) :
    Calls Try.prog 27 #[.slice a n cap] w fun e w' => e = .returned (.bool r) ∧ w' = w := by
  subst hn
  have HB : Hid (Rd st w a cap d) := hB
  have HR : Hid (d.all (fun s => decide (s.length ≤ 40)) = r) := hr
  have HD : Hid (∀ x ∈ d, x.length ≤ maxLen) := hd
  have hcl := hB.1
  have hcm := hB.2.1
  unfold maxLen at hcm
  clear hB hr hd
  go_enter Try.func27, Try.ntmps27
  go_wp2_with fail
  go_loop [3] (fun i => ∃ k : Nat, k ≤ d.length ∧ i = .int .i64 k ∧ Hid (∀ i x, i < k → d[i]? = some x → x.length ≤ 40)) (fun i => d.length - (intOf i).toNat)
  case atStart => exact ⟨0, by omega, rfl, (fun i x hi => by omega : ∀ i x, i < 0 → d[i]? = some x → x.length ≤ 40)⟩
  case round =>
    obtain ⟨k, hk, rfl, HS⟩ := hrel
    by_cases hlt : k < d.length
    · obtain ⟨b, off, rfl, hc⟩ := HB.out.at hlt
      obtain ⟨x, hx⟩ : ∃ x, x = d[k] := ⟨_, rfl⟩
      rw [← hx] at hc
      have hc' : w.cell? ⟨b, off + k, none⟩ = some (.string (str x)) := hc
      have hss : (str x).size = x.length := str_size x
      have hxm : x.length ≤ maxLen := by rw [hx]; exact HD.out _ (List.getElem_mem hlt)
      unfold maxLen at hxm
      have hki : (k : Int) < (d.length : Int) := by omega
      have tk : decide ((k : Int) < (d.length : Int)) = true := by simp; omega
      have hat : d[k]? = some x := by rw [hx]; exact List.getElem?_eq_getElem hlt
      by_cases h40 : x.length ≤ 40
      · have t40 : decide (40 < (x.length : Int)) = false := by simp; omega
        have HN : Hid (∀ i x, i < k + 1 → d[i]? = some x → x.length ≤ 40) := (by
          intro i y hi hy
          by_cases h : i < k
          · exact HS.out i y h hy
          · obtain rfl : i = k := by omega
            rw [hat] at hy
            simp at hy
            rw [← hy]; exact h40 : ∀ i x, i < k + 1 → d[i]? = some x → x.length ≤ 40)
        clear hc hx hat
        go_wp2
        go_round
        case rel => exact ⟨k + 1, by omega, by go_num, HN⟩
        case measure => simp [intOf]; omega
      · have t40 : decide (40 < (x.length : Int)) = true := by simp; omega
        have hrf : r = false := by
          rw [← HR.out]
          simp only [List.all_eq_false, decide_eq_true_eq]
          exact ⟨x, List.mem_of_getElem? hat, h40⟩
        subst hrf
        clear hc hx hat
        go_wp2
        go_ret
        exact ⟨rfl, rfl⟩
    · obtain rfl : k = d.length := by omega
      have hrt : r = true := by
        rw [← HR.out]
        simp only [List.all_eq_true, decide_eq_true_eq]
        intro x hx
        obtain ⟨i, hi⟩ := List.getElem?_of_mem hx
        exact HS.out i x ((List.getElem?_eq_some_iff.1 hi).1) hi
      subst hrt
      go_wp2
      go_ret
      exact ⟨rfl, rfl⟩

theorem bld_known : T.bld [[98], [97], [98]] = [[97], [98]] := by decide +kernel
theorem places_known : places [[97], [98]] [[98], [97], [98]] = [1, 0, 1] := by decide +kernel
theorem merge_known : T.bld (flat [[[97], [99]], [[98], [99]]]) = [[97], [98], [99]] := by decide +kernel
theorem mplaces_known : [[[97], [99]], [[98], [99]]].map (places [[97], [98], [99]]) = [[0, 2], [1, 2]] := by decide +kernel
theorem rise_of {d : List (List UInt8)} (h : T.adj d = true) : T.Rise d := (T.adj_iff d).1 h

set_option maxRecDepth 100000 in
set_option maxHeartbeats 1000000 in
theorem known_any (w : World) : Calls Try.prog 25 #[] w fun e w' => e = .returned (.bool true) ∧ Ex w w' := by
  go_enter Try.func25, Try.ntmps25
  go_wp2_with fail
  refine (build_is _ 3 3 [[98], [97], [98]] _ rfl (Rd.laid w 9 [[98], [97], [98]] (by simp)) (by simp) (by simp [maxLen]) _ bld_known _ places_known).mono ?_
  rintro e w1 ⟨v1, u1, rfl, ⟨a1, c1, rfl, hb1⟩, ⟨a2, c2, rfl, hb2⟩, hx1⟩
  have X1 : Ex w w1 := Ex.trans ((Below.refl _ _).alloc (Nat.le_refl _) _) hx1
  have HB1 : Hid (Rd st w1 a1 c1 [[97], [98]]) := hb1
  have HB2 : Hid (Rd z64 w1 a2 c2 [1, 0, 1]) := hb2
  clear hb1 hb2 hx1
  have hal : ∀ (w' : World) (o : Obj), Ex w' (w'.alloc o) := fun w' o => (Below.refl _ _).alloc (Nat.le_refl _) _
  have hE : EachN st ((w1.alloc (.cells ([[97], [99]].map st).toArray 9)).alloc (.cells ([[98], [99]].map st).toArray 9)) [(some ⟨w1.heap.size, 0, none⟩, 2, 2), (some ⟨w1.heap.size + 1, 0, none⟩, 2, 2)] [[[97], [99]], [[98], [99]]] := by
    have h1 := (Rd.laid (enc := st) w1 9 [[97], [99]] (by simp)).below (hal _ (.cells ([[98], [99]].map st).toArray 9))
    have h2 := Rd.laid (enc := st) (w1.alloc (.cells ([[97], [99]].map st).toArray 9)) 9 [[98], [99]] (by simp)
    have hsz : (w1.alloc (.cells ([[97], [99]].map st).toArray 9)).heap.size = w1.heap.size + 1 := by simp
    rw [hsz] at h2
    exact EachN.cons ⟨rfl, h1⟩ (EachN.cons ⟨rfl, h2⟩ (EachN.nil _))
  have hN := RdN.laid _ 22 _ _ hE (by simp)
  have hsz2 : ((w1.alloc (.cells ([[97], [99]].map st).toArray 9)).alloc (.cells ([[98], [99]].map st).toArray 9)).heap.size = w1.heap.size + 1 + 1 := by simp
  rw [hsz2] at hN
  have HN : Hid (RdN st _ (some ⟨w1.heap.size + 1 + 1, 0, none⟩) 2 [[[97], [99]], [[98], [99]]]) := hN
  clear hN hE hsz2
  go_wp2_with fail
  refine (merge_is _ 2 2 [[[97], [99]], [[98], [99]]] _ rfl HN.out (by decide) (by decide) (by simp [maxLen]) (by intro l hl; simp at hl; rcases hl with rfl | rfl <;> exact rise_of (by decide +kernel)) _ merge_known _ mplaces_known).mono ?_
  rintro e w2 ⟨v3, u3, rfl, ⟨a3, c3, rfl, hb3⟩, ⟨a4, c4, rfl, hb4⟩, hx2⟩
  have X12 : Ex w1 w2 := (((hal _ _).trans (hal _ _)).trans (hal _ _)).trans hx2
  have X2 : Ex w w2 := X1.trans X12
  have HB1b : Hid (Rd st w2 a1 c1 [[97], [98]]) := HB1.out.below X12
  have HB2b : Hid (Rd z64 w2 a2 c2 [1, 0, 1]) := HB2.out.below X12
  have HB3 : Hid (Rd st w2 a3 c3 [[97], [98], [99]]) := hb3
  have h4b := hb4.bounds
  obtain ⟨b, off, p, c, rfl, hce, hrp⟩ := hb4.at (k := 1) (by decide)
  have HCe : Hid (w2.cell? ⟨b, off + 1, none⟩ = some (.slice p 2 c)) := hce
  have HRp : Hid (Rd z64 w2 p c [1, 2]) := hrp
  have h4m := h4b.2
  unfold maxLen at h4m
  clear hb3 hb4 hce hrp hx2 X12 HB1 HB2 HN h4b
  go_wp2_with fail
  refine (texts_is a1 _ 2 2 c1 2 [[97], [98]] [[97], [98]] _ rfl rfl (HB1b.out.below (hal _ _)) (Rd.laid w2 9 [[97], [98]] (by simp)) true (by decide)).mono ?_
  rintro e w3 ⟨rfl, hx3⟩
  have X3 : Ex w2 w3 := (hal _ _).trans hx3
  go_wp2_with fail
  refine (sameInt_is a2 _ 3 3 c2 3 [1, 0, 1] [1, 0, 1] _ rfl rfl ((HB2b.out.below X3).below (hal _ _)) (Rd.laid w3 3 [1, 0, 1] (by simp)) true (by decide)).mono ?_
  rintro e w4 ⟨rfl, hx4⟩
  have X4 : Ex w2 w4 := X3.trans ((hal _ _).trans hx4)
  go_wp2_with fail
  refine (texts_is a3 _ 3 3 c3 3 [[97], [98], [99]] [[97], [98], [99]] _ rfl rfl ((HB3.out.below X4).below (hal _ _)) (Rd.laid w4 9 [[97], [98], [99]] (by simp)) true (by decide)).mono ?_
  rintro e w5 ⟨rfl, hx5⟩
  have X5 : Ex w2 w5 := X4.trans ((hal _ _).trans hx5)
  have hce5 := cell_ex HCe.out X5
  go_wp2_with fail
  refine (sameInt_is p _ 2 2 c 2 [1, 2] [1, 2] _ rfl rfl ((HRp.out.below X5).below (hal _ _)) (Rd.laid w5 3 [1, 2] (by simp)) true (by decide)).mono ?_
  rintro e w6 ⟨rfl, hx6⟩
  have X6 : Ex w2 w6 := X5.trans ((hal _ _).trans hx6)
  go_wp2
  go_ret
  exact ⟨rfl, X2.trans X6⟩
theorem bool_of {f : FuncId} {args : Array Value} {w0 w : World} {v : Value} (h : Calls Try.prog f args w fun e w' => e = .returned v ∧ Ex w w') (hC : Ex w0 w) :
    Calls Try.prog f args w (fun e w' => ∃ v', e = .returned v' ∧ Rg.Spec.ok (.inl v) v' w' ∧ Ex w w' ∧ Ex w0 w') :=
  h.mono fun e w' ⟨he, hw⟩ => ⟨v, he, rfl, hw, hC.trans hw⟩
theorem known_row {w0 : World} (w : World) (hC : Ex w0 w) :
    Calls Try.prog 25 #[] w (fun e w' => ∃ v', e = .returned v' ∧ Rg.Spec.ok (.inl (.bool true)) v' w' ∧ Ex w w' ∧ Ex w0 w') := bool_of (known_any w) hC
end Go.Proofs.Ytmnhoofjijiibaa
