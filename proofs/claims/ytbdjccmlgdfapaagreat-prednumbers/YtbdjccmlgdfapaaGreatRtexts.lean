/-
  Plain facts: a sorted list of texts whose like neighbours are made one is the rising list of its texts. No program here. Plain: the columns that a predicate's parts name, one after the other; the rising list of them. And: a predicate that lies below a bound lies there still, whatever was done above it. Taken out of another text of mine: Rbuild. The document's own Cols. Taken out of another text of mine: Known.
-/
import Derived.Test.YtbdjccmlgdfapaaGreatWords
import Derived.Lib.SlicesCompact
import Derived.Test.YtbdjccmlgdfapaaGreatPblk
import Derived.Test.YtbdjccmlgdfapaaGreatRins
import Derived.Test.YtbdjccmlgdfapaaGreatPstep
namespace Go.Proofs.YtbdjccmlgdfapaaGreat.T
theorem lt_real (x : List UInt8) : ∀ y : List UInt8, lt x y = true ↔ x < y := by
 induction x with
 | nil =>
  intro y
  cases y with
  | nil => simp [lt_irrefl]
  | cons b y => simp [nil_lt]
 | cons a x ih =>
  intro y
  cases y with
  | nil => simp [lt_nil]
  | cons b y =>
   rw [lt_cons, List.cons_lt_cons_iff, ← ih y]
   simp
theorem le_real (x y : List UInt8) : x ≤ y ↔ lt y x = false := by
 rw [← List.not_lt, ← lt_real, Bool.not_eq_true]
theorem le_lt {x y z : List UInt8} (h1 : lt y x = false) (h2 : lt y z = true) : lt x z = true := ge_lt h1 h2
/-- In order, like ones side by side. -/
def Srtd (l : List (List UInt8)) : Prop := l.Pairwise fun x y => lt y x = false
theorem srtd_sort (l : List (List UInt8)) : Srtd (l.mergeSort fun x y => decide (x ≤ y)) := by
 have h := List.pairwise_mergeSort (le := fun x y : List UInt8 => decide (x ≤ y)) (fun a b c h1 h2 => by
  simp only [decide_eq_true_eq] at h1 h2 ⊢
  rw [le_real] at h1 h2 ⊢
  cases h : lt c a with
  | false => rfl
  | true => rw [ge_lt h2 h] at h1; cases h1) (fun a b => by
  simp only [Bool.or_eq_true, decide_eq_true_eq]
  rw [le_real, le_real]
  cases h : lt b a with
  | false => exact .inl rfl
  | true => exact .inr (lt_asymm h)) l
 refine h.imp ?_
 intro x y hxy
 simpa [le_real] using hxy
theorem cmp_upto {l : List (List UInt8)} (hs : Srtd l) : ∀ m, m ≤ l.length → Rise (Lib.compactUpTo l.toArray m) ∧ ∀ x, x ∈ Lib.compactUpTo l.toArray m ↔ ∃ j, j < m ∧ l[j]? = some x := by
 intro m
 induction m with
 | zero =>
  intro _
  refine ⟨by simp [Lib.compactUpTo, Rise], fun x => ?_⟩
  simp [Lib.compactUpTo]
 | succ m ih =>
  intro hm
  obtain ⟨h1, h2⟩ := ih (by omega)
  have hg : l.toArray[m]! = l[m] := by rw [getElem!_pos l.toArray m (by simp; omega)]; simp
  rw [Lib.compactUpTo_succ, hg]
  by_cases hk : Lib.keeps l.toArray m = true
  ·rw [if_pos hk]
   refine ⟨?_, fun x => ?_⟩
   ·unfold Rise
    rw [List.pairwise_append]
    refine ⟨h1, by simp, fun x hx y hy => ?_⟩
    rw [List.mem_singleton.1 hy]
    obtain ⟨j, hj, hjx⟩ := (h2 x).1 hx
    have hj' : j < l.length := by omega
    rw [List.getElem?_eq_getElem hj'] at hjx
    have e := Option.some.inj hjx
    have hm0 : m ≠ 0 := by omega
    have hne : l[m] ≠ l[m - 1] := by
     have h := hk
     unfold Lib.keeps at h
     simp only [decide_eq_true_eq] at h
     rcases h with h | h
     ·exact absurd h hm0
     ·rw [hg, getElem!_pos l.toArray (m - 1) (by simp; omega)] at h
      simpa using h
    have hlast : lt l[m] l[m - 1] = false := (List.pairwise_iff_getElem.1 hs) (m - 1) m (by omega) (by omega) (by omega)
    have hlt : lt l[m - 1] l[m] = true := by
     rcases lt_total l[m - 1] l[m] with h | h | h
     ·exact h
     ·exact absurd h.symm hne
     ·rw [h] at hlast; cases hlast
    rw [← e]
    by_cases hjm : j = m - 1
    ·subst hjm; exact hlt
    ·exact le_lt ((List.pairwise_iff_getElem.1 hs) j (m - 1) (by omega) (by omega) (by omega)) hlt
   ·rw [List.mem_append, h2, List.mem_singleton]
    constructor
    ·rintro (⟨j, hj, h⟩ | rfl)
     ·exact ⟨j, by omega, h⟩
     ·exact ⟨m, by omega, List.getElem?_eq_getElem (by omega)⟩
    ·rintro ⟨j, hj, h⟩
     by_cases e : j = m
     ·subst e
      rw [List.getElem?_eq_getElem (by omega)] at h
      exact .inr (Option.some.inj h).symm
     ·exact .inl ⟨j, by omega, h⟩
  ·rw [if_neg hk, List.append_nil]
   refine ⟨h1, fun x => ?_⟩
   rw [h2]
   constructor
   ·rintro ⟨j, hj, h⟩
    exact ⟨j, by omega, h⟩
   ·rintro ⟨j, hj, h⟩
    by_cases e : j = m
    ·subst e
     have hk' := hk
     unfold Lib.keeps at hk'
     simp only [decide_eq_true_eq, not_or, Classical.not_not] at hk'
     obtain ⟨h0, h3⟩ := hk'
     rw [hg, getElem!_pos l.toArray (j - 1) (by simp; omega)] at h3
     refine ⟨j - 1, by omega, ?_⟩
     rw [List.getElem?_eq_getElem (by omega)] at h
     rw [List.getElem?_eq_getElem (by omega), ← h, h3]
     simp
    ·exact ⟨j, by omega, h⟩
theorem cmp_bld (l : List (List UInt8)) : Lib.compact (l.mergeSort fun x y => decide (x ≤ y)) = bld l := by
 obtain ⟨h1, h2⟩ := cmp_upto (srtd_sort l) _ (Nat.le_refl _)
 refine rise_same h1 (rise_bld l) fun x => ?_
 show x ∈ Lib.compactUpTo _ _ ↔ _
 rw [h2, mem_bld]
 constructor
 ·rintro ⟨j, _, h⟩
  exact (List.mergeSort_perm l _).subset (List.mem_of_getElem? h)
 ·intro h
  obtain ⟨j, hj⟩ := List.getElem?_of_mem ((List.mergeSort_perm l fun x y => decide (x ≤ y)).symm.subset h)
  exact ⟨j, (List.getElem?_eq_some_iff.1 hj).1, hj⟩
end Go.Proofs.YtbdjccmlgdfapaaGreat.T
namespace Go.Proofs.YtbdjccmlgdfapaaGreat
open Go.RowKit
set_option linter.unusedVariables false
set_option linter.unusedSimpArgs false
namespace Pd
def clist : Pr → List (List UInt8) := rec' fun h _ a => own h ++ a.flatten
theorem clist_mk (h : Hd) (l : List Pr) : clist (Pr.mk' h l) = own h ++ (l.map clist).flatten := rec_mk _ h l
theorem mem_clist : ∀ p c, c ∈ clist p ↔ c ∈ cols p := by
 refine tree ?_
 intro h l ih c
 rw [clist_mk, cols_mk, T.mem_bld, List.mem_append, List.mem_append, List.mem_flatten, List.mem_flatten]
 constructor
 ·rintro (h1 | ⟨x, hx, hc⟩)
  ·exact .inl h1
  ·obtain ⟨y, hy, rfl⟩ := List.mem_map.1 hx
   exact .inr ⟨cols y, List.mem_map.2 ⟨y, hy, rfl⟩, (ih y hy c).1 hc⟩
 ·rintro (h1 | ⟨x, hx, hc⟩)
  ·exact .inl h1
  ·obtain ⟨y, hy, rfl⟩ := List.mem_map.1 hx
   exact .inr ⟨clist y, List.mem_map.2 ⟨y, hy, rfl⟩, (ih y hy c).2 hc⟩
theorem rise_cols (p : Pr) : T.Rise (cols p) := by rw [← mk_ks p, cols_mk]; exact T.rise_bld _
theorem bld_clist (p : Pr) : T.bld (clist p) = cols p := T.rise_same (T.rise_bld _) (rise_cols p) fun x => by rw [T.mem_bld, mem_clist]
theorem own_len (h : Hd) : (own h).length ≤ 1 := by unfold own; split <;> simp
theorem clist_len : ∀ p, (clist p).length ≤ size p := by
 refine tree ?_
 intro h l ih
 rw [clist_mk, size_mk, List.length_append]
 have h1 := own_len h
 have h2 : ((l.map clist).flatten).length ≤ (l.map size).sum := by
  clear h1
  induction l with
  | nil => simp
  | cons x t iht =>
   rw [List.map_cons, List.flatten_cons, List.length_append, List.map_cons, List.sum_cons]
   have := ih x (by simp)
   have := iht fun y hy => ih y (by simp [hy])
   omega
 omega
theorem Lay.under {B : Nat → Prop} {base : Nat} (hB : ∀ b, B b → b < base) : ∀ p {w w' : World} {v : PV}, Lay B p w v → Below base w w' → Lay B p w' v := by
 refine tree ?_
 intro h l ih w w' v hl hb
 rw [lay_mk] at hl ⊢
 obtain ⟨⟨h11, h12, h13, h14⟩, h2, h3, vs, h4, h5, h6⟩ := hl
 refine ⟨⟨h11, h12, ⟨h13.1, h13.2.1, h13.2.2.1, fun i x hi => ?_⟩, h14⟩, h2, h3, vs, ⟨h4.1, h4.2.1, h4.2.2.1, fun i x hi => ?_⟩, h5, fun i x p hi hp => ih p (List.mem_of_getElem? hp) (h6 i x p hi hp) hb⟩
 ·obtain ⟨b, off, e, hc⟩ := h13.2.2.2 i x hi
  have hi' := (List.getElem?_eq_some_iff.1 hi).1
  have := hB b (h14 (by omega) b off e)
  exact ⟨b, off, e, by rw [hb.cell (show (⟨b, off + i, none⟩ : Addr).block < base from this)]; exact hc⟩
 ·obtain ⟨b, off, e, hc⟩ := h4.2.2.2 i x hi
  have hi' := (List.getElem?_eq_some_iff.1 hi).1
  have := hB b (h3 (by omega) b off e)
  exact ⟨b, off, e, fun j u hu => by rw [hb.cell (show (⟨b, off + i * 7 + j, none⟩ : Addr).block < base from this)]; exact hc j u hu⟩
end Pd
end Go.Proofs.YtbdjccmlgdfapaaGreat
namespace Go.Proofs.YtbdjccmlgdfapaaGreat
open Go.RowKit
set_option linter.unusedVariables false

theorem Tryz.info3 : (Tryz.prog.info? 3).map (fun i => (i.zero, i.size, i.bytes)) = some (some (.int .i64 0), 1, 8) := by kernel_rfl
def places (D : List (List UInt8)) (l : List (List UInt8)) : List Int := l.map fun s => ((T.place D s : Nat) : Int)
theorem places_len (D l : List (List UInt8)) : (places D l).length = l.length := by simp [places]
theorem take_snoc {α : Type} {l : List α} {k : Nat} (h : k < l.length) : l.take (k + 1) = l.take k ++ [l[k]] := List.take_succ_eq_append_getElem h
theorem places_snoc (D l : List (List UInt8)) (s : List UInt8) : places D (l ++ [s]) = places D l ++ [((T.place D s : Nat) : Int)] := by simp [places]

set_option maxRecDepth 100000 in
set_option maxHeartbeats 1000000 in
theorem rbuild_is (a : Option Addr) (n cap : Nat) (l : List (List UInt8)) (w : World) (hn : n = l.length) (hB : Rd st w a cap l) (hl : l.length ≤ 500) (D : List (List UInt8)) (hD : T.bld l = D) (P : List Int) (hP : places D l = P) :
  Calls Tryz.prog 46 #[.slice a n cap] w fun e w' => ∃ v u, e = .returned (.tuple #[v, u]) ∧ IsRd st D v w' ∧ IsRd z64 P u w' ∧ Ex w w' := by
 subst hn
 have HB : Hid (Rd st w a cap l) := hB
 have HD : Hid (T.bld l = D) := hD
 have HP : Hid (places D l = P) := hP
 have hcl := hB.1
 have hcm := hB.2.1
 unfold maxLen at hcm
 have h0 : Hid (IsRd st (T.bld (l.take 0)) (.slice none 0 0) w) := IsRd.nil w
 clear hB hD hP
 go_enter Tryz.func46, Tryz.ntmps46
 go_wp2_with fail
 go_loopw [4, 5] (fun v i wr => ∃ k : Nat, k ≤ l.length ∧ i = .int .i64 k ∧ Hid (IsRd st (T.bld (l.take k)) v wr) ∧ Hid (Ex w wr)) (fun _ i _ => l.length - (intOf i).toNat)
 case atStart => exact ⟨0, by omega, rfl, h0, Ex.refl _⟩
 case round =>
  obtain ⟨k, hk, rfl, HV, HEx⟩ := hrel
  clear h0
  by_cases hlt : k < l.length
  ·obtain ⟨b, off, rfl, hc⟩ := (HB.out.below HEx.out).at hlt
   obtain ⟨x, hx⟩ : ∃ x, x = l[k] := ⟨_, rfl⟩
   rw [← hx] at hc
   have hc' : wr.cell? ⟨b, off + k, none⟩ = some (.string (str x)) := hc
   have hki : (k : Int) < (l.length : Int) := by omega
   have tk : decide ((k : Int) < (l.length : Int)) = true := by simp; omega
   have hbl := T.bld_len (l.take k)
   have hbl2 : (T.bld (l.take k)).length ≤ 500 := by
    have : (l.take k).length ≤ k := by simp; omega
    omega
   have HN : Hid (T.ins x (T.bld (l.take k)) = T.bld (l.take (k + 1))) := (by rw [take_snoc hlt, T.bld_snoc, hx] : T.ins x (T.bld (l.take k)) = T.bld (l.take (k + 1)))
   obtain ⟨a4, c4, hv4, hb4⟩ := HV.out
   subst hv4
   have HB4 : Hid (Rd st wr a4 c4 (T.bld (l.take k))) := hb4
   clear hc hx hb4 HV hbl
   go_wp2_with fail
   refine (rput7_is a4 _ c4 (T.bld (l.take k)) x _ rfl HB4.out (by omega) _ HN.out).mono ?_
   rintro e w1 ⟨v1, rfl, hv1, hx1⟩
   have HV1 : Hid (IsRd st (T.bld (l.take (k + 1))) v1 w1) := hv1
   have HE1 : Hid (Ex w w1) := HEx.out.trans hx1
   clear hv1 hx1
   go_wp2
   go_roundw
   case rel => exact ⟨k + 1, by omega, by go_num, HV1, HE1⟩
   case measure => simp [intOf]; omega
  ·obtain rfl : k = l.length := by omega
   have tk : decide ((l.length : Int) < (l.length : Int)) = false := by simp
   have hv := HV.out
   rw [List.take_length, HD.out] at hv
   obtain ⟨a4, c4, hv4, hb4⟩ := hv
   subst hv4
   obtain ⟨w2, hw2⟩ : ∃ w2, w2 = wr := ⟨_, rfl⟩
   have HB4 : Hid (Rd st w2 a4 c4 D) := (by rw [hw2]; exact hb4 : Rd st w2 a4 c4 D)
   have HE2 : Hid (Ex w w2) := (by rw [hw2]; exact HEx.out : Ex w w2)
   have hO0 : Hid (OwnR 3 z64 w2 w2.heap.size (.slice none 0 0) (places D (l.take 0))) := (⟨by simp [places], .inl ⟨rfl, rfl⟩⟩ : OwnR 3 z64 w2 w2.heap.size (.slice none 0 0) (places D (l.take 0)))
   have hB0 : Hid (Ex w2 w2) := Ex.refl _
   rw [← hw2]
   clear HV hb4 HEx hw2
   go_wp2_with fail
   go_loopw [6, 7] (fun v i wr => ∃ k : Nat, k ≤ l.length ∧ i = .int .i64 k ∧ Hid (OwnR 3 z64 wr w2.heap.size v (places D (l.take k))) ∧ Hid (Ex w2 wr)) (fun _ i _ => l.length - (intOf i).toNat)
   case atStart => exact ⟨0, by omega, rfl, hO0, hB0⟩
   case round =>
    obtain ⟨k, hk, rfl, HV, HEx⟩ := hrel
    clear hO0 hB0
    have hsz : w2.heap.size ≤ wr.heap.size := HEx.out.size
    by_cases hlt : k < l.length
    ·obtain ⟨b, off, rfl, hc⟩ := ((HB.out.below HE2.out).below HEx.out).at hlt
     obtain ⟨x, hx⟩ : ∃ x, x = l[k] := ⟨_, rfl⟩
     rw [← hx] at hc
     have hc' : wr.cell? ⟨b, off + k, none⟩ = some (.string (str x)) := hc
     have hki : (k : Int) < (l.length : Int) := by omega
     have tk : decide ((k : Int) < (l.length : Int)) = true := by simp; omega
     obtain ⟨r, hr⟩ : ∃ r, T.idx x D = r := ⟨_, rfl⟩
     obtain ⟨p, hp⟩ : ∃ p, r.getD 0 = p := ⟨_, rfl⟩
     have hpl : T.place D x = p := by rw [T.place, hr, hp]
     have HI : Hid (T.idx x D = r) := hr
     have HN : Hid (places D (l.take (k + 1)) = places D (l.take k) ++ [(p : Int)]) := (by rw [take_snoc hlt, places_snoc, ← hx, hpl] : places D (l.take (k + 1)) = places D (l.take k) ++ [(p : Int)])
     have HPp : Hid (r.getD 0 = p) := hp
     have hplen : (places D (l.take k)).length ≤ 500 := by rw [places_len]; simp; omega
     clear hc hx hr hp hpl
     go_wp2_with fail
     refine (rfind_is a4 _ c4 D x _ rfl (HB4.out.below HEx.out) r HI.out).mono ?_
     rintro e wq ⟨rfl, hw⟩
     have hw' := hw.symm; clear hw; subst hw'
     rw [HPp.out]
     have hov := HV.out
     go_wp2_with (at_builtin; refine wpList_append_rd (e := 3) (enc := z64) rfl (.tmp 37) (.tmp 39) 68 rfl 0 8 Tryz.underlying68 Tryz.info3 rfl (fun _ => rfl) w2.heap.size _ (places D (l.take k)) rfl (hov.alloc _) _ _ _ [(p : Int)] rfl rfl (Rd.laid wr 3 [(p : Int)] (by simp)) (by simp [maxLen]; omega) (by simp; omega) (by simp; omega) ?_; intro v9 w9 ho9 hg9; have X9 : Ex w2 w9 := step_belowR (Below.alloc HEx.out hsz _) (by simp; omega) (hov.alloc _) hg9; clear hg9)
     have HO9 : Hid (OwnR 3 z64 w9 w2.heap.size v9 (places D (l.take (k + 1)))) := (by rw [HN.out]; exact ho9 : OwnR 3 z64 w9 w2.heap.size v9 (places D (l.take (k + 1))))
     have HX9 : Hid (Ex w2 w9) := X9
     clear ho9 X9 hov
     go_wp2
     go_roundw
     case rel => exact ⟨k + 1, by omega, by go_num, HO9, HX9⟩
     case measure => simp [intOf]; omega
    ·obtain rfl : k = l.length := by omega
     have hv := HV.out
     rw [List.take_length, HP.out] at hv
     obtain ⟨a6, c6, hv6, hb6⟩ := hv.rd
     subst hv6
     have HB6 : Hid (Rd z64 wr a6 c6 P) := hb6
     clear HV hv hb6
     go_wp2
     go_ret2
     exact ⟨_, _, rfl, ⟨a4, c4, rfl, HB4.out.below HEx.out⟩, ⟨a6, c6, rfl, HB6.out⟩, HE2.out.trans HEx.out⟩

end Go.Proofs.YtbdjccmlgdfapaaGreat
namespace Go.Proofs.YtbdjccmlgdfapaaGreat
open Go.RowKit
set_option linter.unusedVariables false
set_option linter.unusedSimpArgs false
theorem Pd.cols_len (p : Pr) : (Pd.cols p).length ≤ Pd.size p := by
 rw [← Pd.bld_clist]
 exact Nat.le_trans (T.bld_len _) (Pd.clist_len p)
theorem Pd.flat_cols : ∀ l : List Pr, ((l.map Pd.cols).flatten).length ≤ (l.map Pd.size).sum
 | [] => by simp
 | x :: t => by
  have h1 := Pd.flat_cols t
  have h2 := Pd.cols_len x
  rw [List.map_cons, List.flatten_cons, List.length_append, List.map_cons, List.sum_cons]
  omega
theorem Pd.sum_taken (l : List Pr) (i : Nat) : ((l.take i).map Pd.size).sum ≤ (l.map Pd.size).sum := by
 induction l generalizing i with
 | nil => simp
 | cons x t ih =>
  cases i with
  | zero => simp
  | succ i =>
   have := ih i
   simp only [List.take_succ_cons, List.map_cons, List.sum_cons]
   omega
set_option maxHeartbeats 4000000 in
set_option maxRecDepth 100000 in
theorem rcols_is : ∀ (q : Pr) (v : PV) (w : World), Pd.Lay (fun _ => True) q w v → Pd.size q ≤ 400 →
  Calls Tryz.prog 18 #[pvv v] w fun e w' => ∃ a cap, e = .returned (.slice a (Pd.cols q).length cap) ∧ Rd st w' a cap (Pd.cols q) ∧ Ex w w' := by
 refine Pd.tree ?_
 intro h l ih v w hL hsz
 rw [Pd.size_mk] at hsz
 obtain ⟨hHd, hkn, hkB, hkc, hkm, hk0⟩ := hL.head
 obtain ⟨vk, vcol, vn, vm, vs, vset, ⟨p, n, cap⟩⟩ := v
 simp only at hkn hkB hkc hkm hk0
 subst hkn
 unfold maxLen at hkm
 have hcol : vcol = h.col := hHd.1.2.1
 have HIH : Hid (∀ k ∈ l, ∀ (v : PV) (w : World), Pd.Lay (fun _ => True) k w v → Pd.size k ≤ 400 →
  Calls Tryz.prog 18 #[pvv v] w fun e w' => ∃ a cap, e = .returned (.slice a (Pd.cols k).length cap) ∧ Rd st w' a cap (Pd.cols k) ∧ Ex w w') := ih
 have HLw : Hid (Pd.Lay (fun _ => True) (Pr.mk' h l) w ⟨vk, vcol, vn, vm, vs, vset, p, l.length, cap⟩) := hL
 have HLEN : Hid (1 + (l.map Pd.size).sum ≤ 400) := hsz
 obtain ⟨D, hD⟩ : ∃ D, Pd.cols (Pr.mk' h l) = D := ⟨_, rfl⟩
 have HCL : Hid (T.bld (Pd.own h ++ (l.map Pd.cols).flatten) = D) := (by rw [← hD, Pd.cols_mk] : T.bld (Pd.own h ++ (l.map Pd.cols).flatten) = D)
 rw [hD]
 obtain ⟨W, hW⟩ : ∃ W, w.alloc (pb ⟨vk, vcol, vn, vm, vs, vset, p, l.length, cap⟩) = W := ⟨_, rfl⟩
 have hXW : Ex w W := by rw [← hW]; exact (Below.refl _ _).alloc (Nat.le_refl _) _
 have HXW : Hid (Ex w W) := hXW
 have HP : Hid (PAt W w.heap.size ⟨vk, vcol, vn, vm, vs, vset, p, l.length, cap⟩) := (by rw [← hW]; exact PAt.new w _ : PAt W w.heap.size _)
 obtain ⟨p0, p1, p2, p3, p4, p5, p6⟩ := HP.out.all
 simp only at p0 p1 p2 p3 p4 p5 p6
 clear hL hHd hkB ih hXW hsz hD
 unfold pvv
 simp only [sv]
 go_enter Tryz.func18, Tryz.ntmps18
 by_cases hc : vcol = []
 ·subst hc
  have HOW : Hid (Pd.own h = []) := (by unfold Pd.own; rw [if_pos hcol.symm] : Pd.own h = [])
  clear hcol
  have z1 := str_toList ([] : List UInt8)
  go_wp2_with fail
  clear z1
  have HO0 : Hid (OwnR 9 st W W.heap.size (.slice none 0 0) []) := (World.ownsRow_nil _ _ _ _ : OwnR 9 st W W.heap.size (.slice none 0 0) [])
  have HOS : Hid (OwnR 9 st W W.heap.size (.slice none 0 0) ([] ++ ((l.take 0).map Pd.cols).flatten)) := (by simpa using HO0.out : OwnR 9 st _ _ _ ([] ++ ((l.take 0).map Pd.cols).flatten))
  go_loopw [4, 3] (fun iv ov wr => ∃ i : Nat, i ≤ l.length ∧ iv = .int .i64 i ∧ Hid (OwnR 9 st wr W.heap.size ov ([] ++ ((l.take i).map Pd.cols).flatten)) ∧ Hid (Ex W wr)) (fun iv ov wr => l.length - (intOf iv).toNat)
  case atStart => exact ⟨0, by omega, rfl, HOS, (Ex.refl W : Ex W W)⟩
  case round =>
   obtain ⟨i, hi, rfl, HOr, HXr⟩ := hrel
   obtain ⟨d0, d1, d2, d3, d4, d5, d6⟩ := (HP.out.below HXr.out).all
   simp only at d0 d1 d2 d3 d4 d5 d6
   by_cases hlt : i < l.length
   ·have hti : (i : Int) < (l.length : Int) := by omega
    have hLr := Pd.Lay.below _ HLw.out (HXW.out.trans HXr.out)
    obtain ⟨b, off, x, hpp, hbg, hLk, e0, e1, e2, e3, e4, e5, e6⟩ := hLr.kid hlt
    simp only at hpp
    obtain ⟨k, hk⟩ : ∃ k, l[i] = k := ⟨_, rfl⟩
    rw [hk] at hLk
    obtain ⟨K, hK⟩ : ∃ K, Pd.cols k = K := ⟨_, rfl⟩
    obtain ⟨L, hLL⟩ : ∃ L, [] ++ ((l.take i).map Pd.cols).flatten = L := ⟨_, rfl⟩
    have HNX : Hid (L ++ K = [] ++ ((l.take (i + 1)).map Pd.cols).flatten) := (by rw [← hLL, ← hK, List.take_add_one, List.getElem?_eq_getElem hlt, hk]; simp : L ++ K = _)
    have hln : L.length ≤ 401 ∧ K.length ≤ 400 ∧ Pd.size k ≤ 400 := by
     have h1 := HLEN.out
     have h2 := Pd.sum_taken l i
     have h3 := Pd.flat_cols (l.take i)
     have h5 := Pd.sum_taken l (i + 1)
     have h6 : ((l.take (i + 1)).map Pd.size).sum = ((l.take i).map Pd.size).sum + Pd.size k := by rw [List.take_add_one, List.getElem?_eq_getElem hlt, hk]; simp
     have h4 := Pd.cols_len k
     rw [hK] at h4
     have h7 := congrArg List.length hLL
     simp only [List.length_append, List.length_cons, List.length_nil] at h7
     omega
    have HC : Hid (Calls Tryz.prog 18 #[pvv x] wr fun e w' => ∃ a cap, e = .returned (.slice a K.length cap) ∧ Rd st w' a cap K ∧ Ex wr w') := (by
     have h := HIH.out k (by rw [← hk]; exact List.getElem_mem hlt) x wr hLk hln.2.2
     rw [hK] at h
     exact h : Calls _ _ _ _ _)
    rw [hLL] at HOr
    have HLN : Hid (L.length ≤ 401 ∧ K.length ≤ 400 ∧ Pd.size k ≤ 400) := hln
    subst hpp
    clear hLr hLk hk hbg hK hLL hln
    go_wp2_with fail
    go_at_call 18
    refine Calls.mono HC.out ?_
    rintro e w4 ⟨ka, kc, rfl, hr4, hx4⟩
    have HX4 : Hid (Ex W w4) := (HXr.out.trans hx4 : Ex W w4)
    have HO4 : Hid (OwnR 9 st w4 W.heap.size u3 L) := (HOr.out.later hx4 : OwnR 9 st w4 W.heap.size u3 L)
    have HR4 : Hid (Rd st w4 ka kc K) := hr4
    clear hr4 hx4 HC
    have hstep : ∀ v9 w9, OwnR 9 st w9 W.heap.size v9 (L ++ K) → w4.grownBy w9 u3.ownBlock → Hid (OwnR 9 st w9 W.heap.size v9 ([] ++ ((l.take (i + 1)).map Pd.cols).flatten)) ∧ Hid (Ex W w9) := by
     intro v9 w9 ho9 hg9
     exact ⟨by rw [← HNX.out]; exact ho9, step_belowR HX4.out HX4.out.size HO4.out hg9⟩
    go_wp2_with (at_builtin; refine wpList_append_rd_at (e := 9) (enc := st) rfl (.tmp 22) (.tmp 28) 30 rfl [] 16 Tryz.underlying30 Tryz.info9 rfl (fun _ => rfl) W.heap.size u3 L rfl HO4.out ka _ kc K rfl rfl HR4.out (by have := HLN.out; simp [maxLen]; omega) (by have := HLN.out; omega) HX4.out.size ?_; intro v9 w9 ho9 hg9 hat9; obtain ⟨HO9', HX9⟩ := hstep v9 w9 ho9 hg9; clear ho9 hg9 hat9)
    go_roundw
    case rel => exact ⟨i + 1, by omega, by go_num, HO9', HX9⟩
    case measure => simp [intOf]; omega
   ·have hti : ¬ (i : Int) < (l.length : Int) := by omega
    obtain ⟨L, hLL⟩ : ∃ L, [] ++ (l.map Pd.cols).flatten = L := ⟨_, rfl⟩
    have hOE := HOr.out
    rw [List.take_of_length_le (by omega), hLL] at hOE
    obtain ⟨a9, c9, hv9, hr9⟩ := hOE.rd
    subst hv9
    have HR9 : Hid (Rd st wr a9 c9 L) := hr9
    have hLl : L.length ≤ 500 := by
     have h1 := HLEN.out
     have h3 := Pd.flat_cols l
     have h7 := congrArg List.length hLL
     simp only [List.length_append, List.length_cons, List.length_nil] at h7
     omega
    have HD : Hid (T.bld L = D) := (by rw [← HCL.out, ← hLL, HOW.out] : T.bld L = D)
    clear hOE hr9 hLL HOr
    go_wp2_with fail
    go_at_call 46
    refine (rbuild_is a9 _ c9 L wr rfl HR9.out hLl D HD.out (places D L) rfl).mono ?_
    rintro e w5 ⟨v5, y5, rfl, ⟨b5, k5, hv5, hr5⟩, _, hx5⟩
    subst hv5
    have HR5 : Hid (Rd st w5 b5 k5 D) := hr5
    have HX5 : Hid (Ex w w5) := (HXW.out.trans (HXr.out.trans hx5) : Ex w w5)
    clear hx5 hr5
    go_wp2_with fail
    go_ret
    exact ⟨_, _, rfl, HR5.out, HX5.out⟩
 ·have HOW : Hid (Pd.own h = [vcol]) := (by unfold Pd.own; rw [if_neg (by rw [← hcol]; exact hc), hcol] : Pd.own h = [vcol])
  have bb : (vcol == []) = false := beq_eq_false_iff_ne.2 hc
  have z1 := str_toList vcol
  have z2 : ¬ vcol = [] := hc
  clear hcol hc
  have HO2 : Hid (OwnR 9 st (W.alloc (.cells #[.string (str vcol)] 9)) W.heap.size (.slice none 0 0) []) := (World.ownsRow_nil _ _ _ _ : OwnR 9 st _ _ (.slice none 0 0) [])
  have HR2 : Hid (Rd st (W.alloc (.cells #[.string (str vcol)] 9)) (some ⟨W.heap.size, 0, none⟩) 1 [vcol]) := (Rd.laid W 9 [vcol] (by simp) : Rd st _ _ _ _)
  have HB2 : Hid (Ex W (W.alloc (.cells #[.string (str vcol)] 9))) := ((Below.refl _ _).alloc (Nat.le_refl _) _ : Ex W _)
  have hstep0 : ∀ v9 w9, OwnR 9 st w9 W.heap.size v9 ([] ++ [vcol]) → World.grownBy (W.alloc (.cells #[.string (str vcol)] 9)) w9 (Value.slice none 0 0).ownBlock → Hid (OwnR 9 st w9 W.heap.size v9 [vcol]) ∧ Hid (Ex W w9) := by
   intro v9 w9 ho9 hg9
   exact ⟨(by simpa using ho9 : OwnR 9 st w9 W.heap.size v9 [vcol]), step_belowR HB2.out HB2.out.size HO2.out hg9⟩
  go_wp2_with (at_builtin; refine wpList_append_rd_at (e := 9) (enc := st) rfl (.tmp 10) (.tmp 13) 30 rfl [] 16 Tryz.underlying30 Tryz.info9 rfl (fun _ => rfl) W.heap.size (.slice none 0 0) [] rfl HO2.out _ _ _ [vcol] rfl rfl HR2.out (by simp [maxLen]) (by simp) HB2.out.size ?_; intro v8 w8 ho9 hg9 hat9; obtain ⟨HO8, HX8⟩ := hstep0 v8 w8 ho9 hg9; obtain ⟨g0, g1, g2, g3, g4, g5, g6⟩ := (HP.out.below HX8.out).all; simp only at g0 g1 g2 g3 g4 g5 g6; clear ho9 hg9 hat9)
  clear hstep0 g0 g1 g2 g3 g4 g5 g6 p0 p1 p2 p3 p4 p5 p6 z1 z2 bb
  have HOS : Hid (OwnR 9 st w8 W.heap.size v8 ([vcol] ++ ((l.take 0).map Pd.cols).flatten)) := (by simpa using HO8.out : OwnR 9 st _ _ _ ([vcol] ++ ((l.take 0).map Pd.cols).flatten))
  go_loopw [4, 3] (fun iv ov wr => ∃ i : Nat, i ≤ l.length ∧ iv = .int .i64 i ∧ Hid (OwnR 9 st wr W.heap.size ov ([vcol] ++ ((l.take i).map Pd.cols).flatten)) ∧ Hid (Ex W wr)) (fun iv ov wr => l.length - (intOf iv).toNat)
  case atStart => exact ⟨0, by omega, rfl, HOS, HX8⟩
  case round =>
   obtain ⟨i, hi, rfl, HOr, HXr⟩ := hrel
   obtain ⟨d0, d1, d2, d3, d4, d5, d6⟩ := (HP.out.below HXr.out).all
   simp only at d0 d1 d2 d3 d4 d5 d6
   by_cases hlt : i < l.length
   ·have hti : (i : Int) < (l.length : Int) := by omega
    have hLr := Pd.Lay.below _ HLw.out (HXW.out.trans HXr.out)
    obtain ⟨b, off, x, hpp, hbg, hLk, e0, e1, e2, e3, e4, e5, e6⟩ := hLr.kid hlt
    simp only at hpp
    obtain ⟨k, hk⟩ : ∃ k, l[i] = k := ⟨_, rfl⟩
    rw [hk] at hLk
    obtain ⟨K, hK⟩ : ∃ K, Pd.cols k = K := ⟨_, rfl⟩
    obtain ⟨L, hLL⟩ : ∃ L, [vcol] ++ ((l.take i).map Pd.cols).flatten = L := ⟨_, rfl⟩
    have HNX : Hid (L ++ K = [vcol] ++ ((l.take (i + 1)).map Pd.cols).flatten) := (by rw [← hLL, ← hK, List.take_add_one, List.getElem?_eq_getElem hlt, hk]; simp : L ++ K = _)
    have hln : L.length ≤ 401 ∧ K.length ≤ 400 ∧ Pd.size k ≤ 400 := by
     have h1 := HLEN.out
     have h2 := Pd.sum_taken l i
     have h3 := Pd.flat_cols (l.take i)
     have h5 := Pd.sum_taken l (i + 1)
     have h6 : ((l.take (i + 1)).map Pd.size).sum = ((l.take i).map Pd.size).sum + Pd.size k := by rw [List.take_add_one, List.getElem?_eq_getElem hlt, hk]; simp
     have h4 := Pd.cols_len k
     rw [hK] at h4
     have h7 := congrArg List.length hLL
     simp only [List.length_append, List.length_cons, List.length_nil] at h7
     omega
    have HC : Hid (Calls Tryz.prog 18 #[pvv x] wr fun e w' => ∃ a cap, e = .returned (.slice a K.length cap) ∧ Rd st w' a cap K ∧ Ex wr w') := (by
     have h := HIH.out k (by rw [← hk]; exact List.getElem_mem hlt) x wr hLk hln.2.2
     rw [hK] at h
     exact h : Calls _ _ _ _ _)
    rw [hLL] at HOr
    have HLN : Hid (L.length ≤ 401 ∧ K.length ≤ 400 ∧ Pd.size k ≤ 400) := hln
    subst hpp
    clear hLr hLk hk hbg hK hLL hln
    go_wp2_with fail
    go_at_call 18
    refine Calls.mono HC.out ?_
    rintro e w4 ⟨ka, kc, rfl, hr4, hx4⟩
    have HX4 : Hid (Ex W w4) := (HXr.out.trans hx4 : Ex W w4)
    have HO4 : Hid (OwnR 9 st w4 W.heap.size u3 L) := (HOr.out.later hx4 : OwnR 9 st w4 W.heap.size u3 L)
    have HR4 : Hid (Rd st w4 ka kc K) := hr4
    clear hr4 hx4 HC
    have hstep : ∀ v9 w9, OwnR 9 st w9 W.heap.size v9 (L ++ K) → w4.grownBy w9 u3.ownBlock → Hid (OwnR 9 st w9 W.heap.size v9 ([vcol] ++ ((l.take (i + 1)).map Pd.cols).flatten)) ∧ Hid (Ex W w9) := by
     intro v9 w9 ho9 hg9
     exact ⟨by rw [← HNX.out]; exact ho9, step_belowR HX4.out HX4.out.size HO4.out hg9⟩
    go_wp2_with (at_builtin; refine wpList_append_rd_at (e := 9) (enc := st) rfl (.tmp 22) (.tmp 28) 30 rfl [] 16 Tryz.underlying30 Tryz.info9 rfl (fun _ => rfl) W.heap.size u3 L rfl HO4.out ka _ kc K rfl rfl HR4.out (by have := HLN.out; simp [maxLen]; omega) (by have := HLN.out; omega) HX4.out.size ?_; intro v9 w9 ho9 hg9 hat9; obtain ⟨HO9', HX9⟩ := hstep v9 w9 ho9 hg9; clear ho9 hg9 hat9)
    go_roundw
    case rel => exact ⟨i + 1, by omega, by go_num, HO9', HX9⟩
    case measure => simp [intOf]; omega
   ·have hti : ¬ (i : Int) < (l.length : Int) := by omega
    obtain ⟨L, hLL⟩ : ∃ L, [vcol] ++ (l.map Pd.cols).flatten = L := ⟨_, rfl⟩
    have hOE := HOr.out
    rw [List.take_of_length_le (by omega), hLL] at hOE
    obtain ⟨a9, c9, hv9, hr9⟩ := hOE.rd
    subst hv9
    have HR9 : Hid (Rd st wr a9 c9 L) := hr9
    have hLl : L.length ≤ 500 := by
     have h1 := HLEN.out
     have h3 := Pd.flat_cols l
     have h7 := congrArg List.length hLL
     simp only [List.length_append, List.length_cons, List.length_nil] at h7
     omega
    have HD : Hid (T.bld L = D) := (by rw [← HCL.out, ← hLL, HOW.out] : T.bld L = D)
    clear hOE hr9 hLL HOr
    go_wp2_with fail
    go_at_call 46
    refine (rbuild_is a9 _ c9 L wr rfl HR9.out hLl D HD.out (places D L) rfl).mono ?_
    rintro e w5 ⟨v5, y5, rfl, ⟨b5, k5, hv5, hr5⟩, _, hx5⟩
    subst hv5
    have HR5 : Hid (Rd st w5 b5 k5 D) := hr5
    have HX5 : Hid (Ex w w5) := (HXW.out.trans (HXr.out.trans hx5) : Ex w w5)
    clear hx5 hr5
    go_wp2_with fail
    go_ret
    exact ⟨_, _, rfl, HR5.out, HX5.out⟩
end Go.Proofs.YtbdjccmlgdfapaaGreat
namespace Go.Proofs.YtbdjccmlgdfapaaGreat
open Go.RowKit
set_option linter.unusedVariables false

set_option maxRecDepth 100000 in
set_option maxHeartbeats 1000000 in
theorem ktexts_is (a1 a2 : Option Addr) (n1 n2 c1 c2 : Nat) (L M : List (List UInt8)) (w : World) (h1 : n1 = L.length) (h2 : n2 = M.length) (hB1 : Rd st w a1 c1 L) (hB2 : Rd st w a2 c2 M) (r : Bool) (hr : decide (L = M) = r) :
  Calls Tryz.prog 16 #[.slice a1 n1 c1, .slice a2 n2 c2] w fun e w' => e = .returned (.bool r) ∧ Ex w w' := by
 subst h1; subst h2
 have h11 := hB1.1
 have h12 := hB1.2.1
 have h21 := hB2.1
 have h22 := hB2.2.1
 unfold maxLen at h12 h22
 have H1 : Hid (Rd st w a1 c1 L) := hB1
 have H2 : Hid (Rd st w a2 c2 M) := hB2
 have HR : Hid (decide (L = M) = r) := hr
 clear hB1 hB2 hr
 by_cases hl : L.length = M.length
 ·have hla : L.length ≤ M.length := by omega
  have hlb : M.length ≤ L.length := by omega
  have t0 : ((L.length : Int) != (M.length : Int)) = false := by simp; omega
  clear hl
  go_enter Tryz.func16, Tryz.ntmps16
  go_wp2_with fail
  go_loopw [5] (fun i wr => ∃ k : Nat, k ≤ L.length ∧ i = .int .i64 k ∧ Hid (∀ i, i < k → L[i]? = M[i]?) ∧ Hid (Ex w wr)) (fun i _ => L.length - (intOf i).toNat)
  case atStart => exact ⟨0, by omega, rfl, (fun i hi => by omega : ∀ i, i < 0 → L[i]? = M[i]?), Ex.refl _⟩
  case round =>
   obtain ⟨k, hk, rfl, HS, HEx⟩ := hrel
   by_cases hlt : k < L.length
   ·have tk : decide ((k : Int) < (L.length : Int)) = true := by simp; omega
    obtain ⟨b1, o1, rfl, hce1⟩ := (H1.out.below HEx.out).at hlt
    obtain ⟨b2, o2, rfl, hce2⟩ := (H2.out.below HEx.out).at (k := k) (by omega)
    obtain ⟨x, hx⟩ : ∃ x, x = L[k] := ⟨_, rfl⟩
    obtain ⟨y, hy⟩ : ∃ y, y = M[k]'(by omega) := ⟨_, rfl⟩
    rw [← hx] at hce1
    rw [← hy] at hce2
    have hxk : L[k]? = some x := by rw [hx, List.getElem?_eq_getElem hlt]
    have hyk : M[k]? = some y := by rw [hy]; exact List.getElem?_eq_getElem (by omega)
    have HC1 : Hid (wr.cell? ⟨b1, o1 + k, none⟩ = some (Value.string (str x))) := hce1
    have HC2 : Hid (wr.cell? ⟨b2, o2 + k, none⟩ = some (Value.string (str y))) := hce2
    have HXk : Hid (L[k]? = some x) := hxk
    have HYk : Hid (M[k]? = some y) := hyk
    have hk1 : (k : Int) < (L.length : Int) := by omega
    have hk2 : (k : Int) < (M.length : Int) := by omega
    clear hce1 hce2 hx hy hxk hyk
    by_cases he : x = y
    ·subst he
     have HN : Hid (∀ i, i < k + 1 → L[i]? = M[i]?) := (by
      intro i hi
      by_cases h : i < k
      ·exact HS.out i h
      ·obtain rfl : i = k := by omega
       rw [HXk.out, HYk.out] : ∀ i, i < k + 1 → L[i]? = M[i]?)
     go_wp2_with fail
     have hre := Ex.refl
     refine Rg.wp_rows [.inl (Value.slice (some { block := b1, off := o1 }) L.length c1), .inl (Value.int IntKind.i64 ↑k), .inl (Value.pointer (some ⟨b1, o1 + k, none⟩)), .inl (Value.string (str x)), .inl (Value.slice (some { block := b2, off := o2 }) M.length c2), .inl (Value.int IntKind.i64 ↑k), .inl (Value.pointer (some ⟨b2, o2 + k, none⟩)), .inl (Value.string (str x)), .inl (.bool false)] (Ex wr) Ex 26 (by kernel_rfl) rfl (by kernel_rfl) ?st hre (Ex.drew _) ?goods ?fin
     case st => exact trivial
     case goods =>
      refine Rg.goods_cons (Rg.good_move hre rfl rfl rfl) ?_
      refine Rg.goods_cons (Rg.good_move hre rfl rfl rfl) ?_
      refine Rg.goods_cons (Rg.good_index hre rfl rfl rfl rfl (fun wx hC => by go_simp)) ?_
      refine Rg.goods_cons (Rg.good_load hre rfl rfl rfl (fun wx hC => by have hcz := cell_exR HC1.out hC; go_simp)) ?_
      refine Rg.goods_cons (Rg.good_move hre rfl rfl rfl) ?_
      refine Rg.goods_cons (Rg.good_move hre rfl rfl rfl) ?_
      refine Rg.goods_cons (Rg.good_index hre rfl rfl rfl rfl (fun wx hC => by go_simp)) ?_
      refine Rg.goods_cons (Rg.good_load hre rfl rfl rfl (fun wx hC => by have hcz := cell_exR HC2.out hC; go_simp)) ?_
      refine Rg.goods_cons (Rg.good_bin hre rfl rfl rfl rfl (fun _ => rfl) (fun w => by go_simp)) ?_
      exact Rg.goods_nil
     case fin =>
      intro wx hx
      simp only [Rg.later, Act.put, List.setIfInBounds_toArray, List.set_cons_succ, List.set_cons_zero]
      have HXx : Hid (Ex w wx) := HEx.out.trans hx
      clear hx
      go_wp2
      go_roundw
      case rel => exact ⟨k + 1, by omega, by go_num, HN, HXx⟩
      case measure => simp [intOf]; omega
    ·have HNe : Hid (¬ x = y) := he
     have hf : decide (L = M) = false := by
      simp only [decide_eq_false_iff_not]
      intro h
      have h1 := HXk.out
      rw [h, HYk.out] at h1
      simp at h1
      exact he h1.symm
     rw [HR.out] at hf
     subst hf
     clear he
     go_wp2_with fail
     have hre := Ex.refl
     refine Rg.wp_rows [.inl (Value.slice (some { block := b1, off := o1 }) L.length c1), .inl (Value.int IntKind.i64 ↑k), .inl (Value.pointer (some ⟨b1, o1 + k, none⟩)), .inl (Value.string (str x)), .inl (Value.slice (some { block := b2, off := o2 }) M.length c2), .inl (Value.int IntKind.i64 ↑k), .inl (Value.pointer (some ⟨b2, o2 + k, none⟩)), .inl (Value.string (str y)), .inl (.bool true)] (Ex wr) Ex 26 (by kernel_rfl) rfl (by kernel_rfl) ?st hre (Ex.drew _) ?goods ?fin
     case st => exact trivial
     case goods =>
      refine Rg.goods_cons (Rg.good_move hre rfl rfl rfl) ?_
      refine Rg.goods_cons (Rg.good_move hre rfl rfl rfl) ?_
      refine Rg.goods_cons (Rg.good_index hre rfl rfl rfl rfl (fun wx hC => by go_simp)) ?_
      refine Rg.goods_cons (Rg.good_load hre rfl rfl rfl (fun wx hC => by have hcz := cell_exR HC1.out hC; go_simp)) ?_
      refine Rg.goods_cons (Rg.good_move hre rfl rfl rfl) ?_
      refine Rg.goods_cons (Rg.good_move hre rfl rfl rfl) ?_
      refine Rg.goods_cons (Rg.good_index hre rfl rfl rfl rfl (fun wx hC => by go_simp)) ?_
      refine Rg.goods_cons (Rg.good_load hre rfl rfl rfl (fun wx hC => by have hcz := cell_exR HC2.out hC; go_simp)) ?_
      refine Rg.goods_cons (Rg.good_bin hre rfl rfl rfl rfl (fun _ => rfl) (fun w => by go_simp; rw [str_toList, str_toList]; exact HNe.out)) ?_
      exact Rg.goods_nil
     case fin =>
      intro wx hx
      simp only [Rg.later, Act.put, List.setIfInBounds_toArray, List.set_cons_succ, List.set_cons_zero]
      have HXx : Hid (Ex w wx) := HEx.out.trans hx
      clear hx
      go_wp2
      go_ret
      exact ⟨rfl, HXx.out⟩
   ·obtain rfl : k = L.length := by omega
    have ht : decide (L = M) = true := by
     simp only [decide_eq_true_eq]
     apply List.ext_getElem?
     intro i
     by_cases hi : i < L.length
     ·exact HS.out i hi
     ·rw [List.getElem?_eq_none (by omega), List.getElem?_eq_none (by omega)]
    rw [HR.out] at ht
    subst ht
    go_wp2
    go_ret
    exact ⟨rfl, HEx.out⟩
 ·have t0 : ((L.length : Int) != (M.length : Int)) = true := by simp; omega
  have hf : decide (L = M) = false := by
   simp only [decide_eq_false_iff_not]
   intro h; exact hl (by rw [h])
  rw [HR.out] at hf
  subst hf
  go_enter Tryz.func16, Tryz.ntmps16
  go_wp2
  go_ret
  exact ⟨rfl, Ex.refl _⟩

end Go.Proofs.YtbdjccmlgdfapaaGreat
