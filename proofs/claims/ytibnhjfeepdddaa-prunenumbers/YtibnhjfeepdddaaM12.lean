/-
  The document's own zoneOf: the zone of a column. Plain facts: a sorted list of texts whose like neighbours are made one is the rising list of its texts. No program here. The library functions that the landed bloom calls, laid. Slices of strings that come in; a string as bytes of its own. No function of the program here. Package bloom's countUnlike, over the program: how many unlike texts there are. Go's 'exclusive or', 'and 1' and the wrapped product at single numbers, in the words of the walk.
-/
import Derived.Test.YtibnhjfeepdddaaM11
import Derived.Test.YtibnhjfeepdddaaM02
import Derived.Lib.SlicesCompact
import Derived.Shelf.Sort.Plain
import Derived.Shelf.Slices.Clone
import Derived.Shelf.Slices.CompactS
import Derived.Shelf.Slices.In.SortNone
import Derived.Test.YtibnhjfeepdddaaProg
import Derived.Test.YtibnhjfeepdddaaM05
import Derived.SliceStrings
import Derived.Sort.OwnSorted
import Derived.Sort.Grow
import Derived.Lib.OwnBridge
import Derived.Test.YtibnhjfeepdddaaM04
import Derived.Test.YtibnhjfeepdddaaM08
namespace Go.Proofs.Ytibnhjfeepdddaa
open Go.RowKit
set_option linter.unusedVariables false
set_option linter.unusedSimpArgs false
theorem Pu.zoneOf_at {s : St} {c n : List UInt8} {d : Zn} {l m : List (List UInt8 × Zn)} (h : s.zs = l ++ (n, d) :: m) (hl : ∀ x ∈ l, x.1 ≠ c) (hn : n = c) : Pu.zoneOf s c = d := by
 unfold Pu.zoneOf
 rw [h, List.find?_append, List.find?_eq_none.2 (fun x hx => by simpa using hl x hx)]
 simp [hn]
theorem Pu.zoneOf_out {s : St} {c : List UInt8} (h : ∀ x ∈ s.zs, x.1 ≠ c) : Pu.zoneOf s c = ⟨0, s.rows, s.rows, 0, 0, [], []⟩ := by
 unfold Pu.zoneOf
 rw [List.find?_eq_none.2 (fun x hx => by simpa using h x hx)]
 rfl
set_option maxHeartbeats 4000000 in
set_option maxRecDepth 100000 in
theorem rzone_is (v : TV) (s : St) (c : List UInt8) (w : World) (h : StOk w v s) (z : Zn) (hz : Pu.zoneOf s c = z) : Calls Try.prog 55 #[tvv v, .string (str c)] w fun e w' => e = .returned (zv z) ∧ Ex w w' := by
 obtain ⟨vr, vl, vh, ⟨p, n, cap⟩, ⟨q, nq, capq⟩⟩ := v
 obtain ⟨⟨rfl, rfl, rfl⟩, ⟨hn, hB⟩, hnq, _⟩ := h
 simp only at hn hB hnq
 subst hn hnq
 have h1 := hB.1
 have h2 := hB.2.1
 unfold maxLen at h2
 obtain ⟨V, hV⟩ : ∃ V : TV, V = ⟨s.rows, s.lo, s.hi, (p, s.zs.length, cap), (q, s.bs.length, capq)⟩ := ⟨_, rfl⟩
 obtain ⟨W, hW⟩ : ∃ W, W = (w.alloc (tb ⟨s.rows, s.lo, s.hi, (p, s.zs.length, cap), (q, s.bs.length, capq)⟩ 46)).alloc (zb0 74) := ⟨_, rfl⟩
 have HX : Hid (Ex w W) := (by rw [hW]; exact ((Below.refl _ _).alloc (Nat.le_refl _) _).alloc (by simp) _ : Ex w W)
 have HB : Hid (RdZ W p cap s.zs) := hB.below HX.out
 have HL : Hid (TAt W w.heap.size ⟨s.rows, s.lo, s.hi, (p, s.zs.length, cap), (q, s.bs.length, capq)⟩ 46) := (by rw [hW]; exact (TAt.new w _ _).alloc _ : TAt W w.heap.size ⟨s.rows, s.lo, s.hi, (p, s.zs.length, cap), (q, s.bs.length, capq)⟩ 46)
 have HZ : Hid (ZAt W (w.heap.size + 1) Z.zero 74) := (by
  have h := ZAt.new (w.alloc (tb ⟨s.rows, s.lo, s.hi, (p, s.zs.length, cap), (q, s.bs.length, capq)⟩ 46)) Z.zero 74
  have hs : (w.alloc (tb ⟨s.rows, s.lo, s.hi, (p, s.zs.length, cap), (q, s.bs.length, capq)⟩ 46)).heap.size = w.heap.size + 1 := by simp
  rw [hs] at h
  rw [hW]; exact h : ZAt W (w.heap.size + 1) Z.zero 74)
 have HW : Hid (W = (w.alloc (tb ⟨s.rows, s.lo, s.hi, (p, s.zs.length, cap), (q, s.bs.length, capq)⟩ 46)).alloc (zb0 74)) := hW
 have HC : Hid (Pu.zoneOf s c = z) := hz
 have zs := str_toList c
 clear hB hW hz hV V
 unfold tvv
 simp only [sv]
 go_enter Try.func55, Try.ntmps55
 go_wp2_with fail
 rw [← HW.out]
 obtain ⟨n0, n1, n2, n3, n4⟩ := HL.out.all
 simp only at n0 n1 n2 n3 n4
 obtain ⟨z0, z1, z2, z3, z4, z5, z6⟩ := HZ.out.all
 obtain ⟨f0, f1, f2, f3, f4, f5, f6⟩ := HZ.out.fro
 go_loopw [5] (fun iv wr => ∃ i : Nat, i ≤ s.zs.length ∧ iv = .int .i64 i ∧ Hid (∀ d ∈ s.zs.take i, d.1 ≠ c) ∧ wr = W) (fun iv wr => s.zs.length - (intOf iv).toNat)
 case atStart => exact ⟨0, by omega, rfl, (by simp : ∀ d ∈ s.zs.take 0, d.1 ≠ c), rfl⟩
 case round =>
  obtain ⟨i, hi, rfl, HN, hwr⟩ := hrel
  have hwr := hwr.symm
  subst hwr
  by_cases hlt : i < s.zs.length
  ·have hti : (i : Int) < (s.zs.length : Int) := by omega
   obtain ⟨b, off, rfl, e0, e1, e2, e3, e4, e5, e6, e7⟩ := RdZ.eight HB.out hlt
   obtain ⟨⟨dn, d⟩, hd⟩ : ∃ d, s.zs[i] = d := ⟨_, rfl⟩
   rw [hd] at e0 e1 e2 e3 e4 e5 e6 e7
   simp only at e0 e1 e2 e3 e4 e5 e6 e7
   have hsp : s.zs = s.zs.take i ++ (dn, d) :: s.zs.drop (i + 1) := by rw [← hd, ← List.drop_eq_getElem_cons hlt, List.take_append_drop]
   have HSP : Hid (s.zs = s.zs.take i ++ (dn, d) :: s.zs.drop (i + 1)) := hsp
   have hnx : s.zs.take (i + 1) = s.zs.take i ++ [(dn, d)] := by rw [List.take_add_one, List.getElem?_eq_getElem hlt, hd]; rfl
   have HNX : Hid (s.zs.take (i + 1) = s.zs.take i ++ [(dn, d)]) := hnx
   have zd := str_toList dn
   clear hd hsp hnx
   by_cases hds : dn = c
   ·have td : (dn == c) = true := by simp [hds]
    have HF : Hid (z = d) := (by rw [← HC.out]; exact Pu.zoneOf_at HSP.out HN.out hds : z = d)
    clear hds
    go_wp2_with fail
    have hL9 := ZAt.store HZ.out d
    have hX9 := Below.zset HX.out (Nat.le_succ _) d
    refine bodyPost_ret (v := zv d) (rres_zone Try.results55 rfl hL9) rfl ⟨by rw [HF.out], hX9⟩
   ·have td : (dn == c) = false := by simp [hds]
    have HN2 : Hid (∀ e ∈ s.zs.take (i + 1), e.1 ≠ c) := (by
     intro e he
     rw [HNX.out] at he
     rcases List.mem_append.1 he with h | h
     ·exact HN.out e h
     ·rw [List.mem_singleton] at h; subst h; exact hds : ∀ e ∈ s.zs.take (i + 1), e.1 ≠ c)
    go_wp2_with fail
    go_roundw
    case rel => exact ⟨i + 1, by omega, by go_num, HN2, by simp⟩
    case measure => simp [intOf]; omega
  ·have hti : ¬ (i : Int) < (s.zs.length : Int) := by omega
   have HF : Hid (z = ⟨0, s.rows, s.rows, 0, 0, [], []⟩) := (by rw [← HC.out]; have h := HN.out; rw [List.take_of_length_le (by omega)] at h; exact Pu.zoneOf_out h : z = ⟨0, s.rows, s.rows, 0, 0, [], []⟩)
   go_wp2_with fail
   have hL9 := ZAt.store HZ.out ⟨0, s.rows, s.rows, 0, 0, [], []⟩
   have hX9 := Below.zset HX.out (Nat.le_succ _) ⟨0, s.rows, s.rows, 0, 0, [], []⟩
   refine bodyPost_ret (v := zv ⟨0, s.rows, s.rows, 0, 0, [], []⟩) (rres_zone Try.results55 rfl hL9) rfl ⟨by rw [HF.out], hX9⟩
end Go.Proofs.Ytibnhjfeepdddaa
namespace Go.Proofs.Ytibnhjfeepdddaa.T
theorem lt_real (x : List UInt8) : ∀ y : List UInt8, lt x y = true ↔ x < y := by
 induction x with
 | nil =>
  intro y
  cases y with
  | nil => simp [lt_irrefl]
  | cons b y => simp [nil_lt]
 | cons a x ih =>
  intro y
  cases y with
  | nil => simp [lt_nil]
  | cons b y =>
   rw [lt_cons, List.cons_lt_cons_iff, ← ih y]
   simp
theorem le_real (x y : List UInt8) : x ≤ y ↔ lt y x = false := by
 rw [← List.not_lt, ← lt_real, Bool.not_eq_true]
theorem le_lt {x y z : List UInt8} (h1 : lt y x = false) (h2 : lt y z = true) : lt x z = true := ge_lt h1 h2
/-- In order, like ones side by side. -/
def Srtd (l : List (List UInt8)) : Prop := l.Pairwise fun x y => lt y x = false
theorem srtd_sort (l : List (List UInt8)) : Srtd (l.mergeSort fun x y => decide (x ≤ y)) := by
 have h := List.pairwise_mergeSort (le := fun x y : List UInt8 => decide (x ≤ y)) (fun a b c h1 h2 => by
  simp only [decide_eq_true_eq] at h1 h2 ⊢
  rw [le_real] at h1 h2 ⊢
  cases h : lt c a with
  | false => rfl
  | true => rw [ge_lt h2 h] at h1; cases h1) (fun a b => by
  simp only [Bool.or_eq_true, decide_eq_true_eq]
  rw [le_real, le_real]
  cases h : lt b a with
  | false => exact .inl rfl
  | true => exact .inr (lt_asymm h)) l
 refine h.imp ?_
 intro x y hxy
 simpa [le_real] using hxy
theorem cmp_upto {l : List (List UInt8)} (hs : Srtd l) : ∀ m, m ≤ l.length → Rise (Lib.compactUpTo l.toArray m) ∧ ∀ x, x ∈ Lib.compactUpTo l.toArray m ↔ ∃ j, j < m ∧ l[j]? = some x := by
 intro m
 induction m with
 | zero =>
  intro _
  refine ⟨by simp [Lib.compactUpTo, Rise], fun x => ?_⟩
  simp [Lib.compactUpTo]
 | succ m ih =>
  intro hm
  obtain ⟨h1, h2⟩ := ih (by omega)
  have hg : l.toArray[m]! = l[m] := by rw [getElem!_pos l.toArray m (by simp; omega)]; simp
  rw [Lib.compactUpTo_succ, hg]
  by_cases hk : Lib.keeps l.toArray m = true
  ·rw [if_pos hk]
   refine ⟨?_, fun x => ?_⟩
   ·unfold Rise
    rw [List.pairwise_append]
    refine ⟨h1, by simp, fun x hx y hy => ?_⟩
    rw [List.mem_singleton.1 hy]
    obtain ⟨j, hj, hjx⟩ := (h2 x).1 hx
    have hj' : j < l.length := by omega
    rw [List.getElem?_eq_getElem hj'] at hjx
    have e := Option.some.inj hjx
    have hm0 : m ≠ 0 := by omega
    have hne : l[m] ≠ l[m - 1] := by
     have h := hk
     unfold Lib.keeps at h
     simp only [decide_eq_true_eq] at h
     rcases h with h | h
     ·exact absurd h hm0
     ·rw [hg, getElem!_pos l.toArray (m - 1) (by simp; omega)] at h
      simpa using h
    have hlast : lt l[m] l[m - 1] = false := (List.pairwise_iff_getElem.1 hs) (m - 1) m (by omega) (by omega) (by omega)
    have hlt : lt l[m - 1] l[m] = true := by
     rcases lt_total l[m - 1] l[m] with h | h | h
     ·exact h
     ·exact absurd h.symm hne
     ·rw [h] at hlast; cases hlast
    rw [← e]
    by_cases hjm : j = m - 1
    ·subst hjm; exact hlt
    ·exact le_lt ((List.pairwise_iff_getElem.1 hs) j (m - 1) (by omega) (by omega) (by omega)) hlt
   ·rw [List.mem_append, h2, List.mem_singleton]
    constructor
    ·rintro (⟨j, hj, h⟩ | rfl)
     ·exact ⟨j, by omega, h⟩
     ·exact ⟨m, by omega, List.getElem?_eq_getElem (by omega)⟩
    ·rintro ⟨j, hj, h⟩
     by_cases e : j = m
     ·subst e
      rw [List.getElem?_eq_getElem (by omega)] at h
      exact .inr (Option.some.inj h).symm
     ·exact .inl ⟨j, by omega, h⟩
  ·rw [if_neg hk, List.append_nil]
   refine ⟨h1, fun x => ?_⟩
   rw [h2]
   constructor
   ·rintro ⟨j, hj, h⟩
    exact ⟨j, by omega, h⟩
   ·rintro ⟨j, hj, h⟩
    by_cases e : j = m
    ·subst e
     have hk' := hk
     unfold Lib.keeps at hk'
     simp only [decide_eq_true_eq, not_or, Classical.not_not] at hk'
     obtain ⟨h0, h3⟩ := hk'
     rw [hg, getElem!_pos l.toArray (j - 1) (by simp; omega)] at h3
     refine ⟨j - 1, by omega, ?_⟩
     rw [List.getElem?_eq_getElem (by omega)] at h
     rw [List.getElem?_eq_getElem (by omega), ← h, h3]
     simp
    ·exact ⟨j, by omega, h⟩
theorem cmp_bld (l : List (List UInt8)) : Lib.compact (l.mergeSort fun x y => decide (x ≤ y)) = bld l := by
 obtain ⟨h1, h2⟩ := cmp_upto (srtd_sort l) _ (Nat.le_refl _)
 refine rise_same h1 (rise_bld l) fun x => ?_
 show x ∈ Lib.compactUpTo _ _ ↔ _
 rw [h2, mem_bld]
 constructor
 ·rintro ⟨j, _, h⟩
  exact (List.mergeSort_perm l _).subset (List.mem_of_getElem? h)
 ·intro h
  obtain ⟨j, hj⟩ := List.getElem?_of_mem ((List.mergeSort_perm l fun x y => decide (x ≤ y)).symm.subset h)
  exact ⟨j, (List.getElem?_eq_some_iff.1 hj).1, hj⟩
end Go.Proofs.Ytibnhjfeepdddaa.T
namespace Go.Proofs
open Go.Shelf
def Try.lays190_ren : Go.Shelf.Ren := ⟨fun | 190 => 44 | 125 => 69 | 258 => 68 | 128 => 98 | 129 => 99 | 302 => 89 | 303 => 90 | 304 => 91 | 305 => 92 | 306 => 93 | 307 => 94 | 308 => 95 | 309 => 96 | 310 => 97 | 333 => 103 | 329 => 104 | 330 => 105 | 334 => 106 | 335 => 107 | 336 => 108 | 344 => 110 | n => n, fun | 31 => 26 | 9 => 9 | 3 => 3 | 46 => 97 | 0 => 0 | 51 => 136 | 53 => 69 | 4 => 4 | 183 => 130 | 182 => 129 | 131 => 125 | 5 => 5 | 218 => 140 | 222 => 81 | 228 => 146 | 229 => 147 | n => n, fun | n => n⟩
theorem Try.lays190 : Go.Proofs.Lays.n190 Try.prog Try.lays190_ren := {
 mixed := by kernel_rfl
 f125 := Try.func69.trans (congrArg some (by kernel_rfl))
 f128 := Try.func98.trans (congrArg some (by kernel_rfl))
 f129 := Try.func99.trans (congrArg some (by kernel_rfl))
 f190 := Try.func44.trans (congrArg some (by kernel_rfl))
 f258 := Try.func68.trans (congrArg some (by kernel_rfl))
 f302 := Try.func89.trans (congrArg some (by kernel_rfl))
 f303 := Try.func90.trans (congrArg some (by kernel_rfl))
 f304 := Try.func91.trans (congrArg some (by kernel_rfl))
 f305 := Try.func92.trans (congrArg some (by kernel_rfl))
 f306 := Try.func93.trans (congrArg some (by kernel_rfl))
 f307 := Try.func94.trans (congrArg some (by kernel_rfl))
 f308 := Try.func95.trans (congrArg some (by kernel_rfl))
 f309 := Try.func96.trans (congrArg some (by kernel_rfl))
 f310 := Try.func97.trans (congrArg some (by kernel_rfl))
 f329 := Try.func104.trans (congrArg some (by kernel_rfl))
 f330 := Try.func105.trans (congrArg some (by kernel_rfl))
 f333 := Try.func103.trans (congrArg some (by kernel_rfl))
 f334 := Try.func106.trans (congrArg some (by kernel_rfl))
 f335 := Try.func107.trans (congrArg some (by kernel_rfl))
 f336 := Try.func108.trans (congrArg some (by kernel_rfl))
 f344 := Try.func110.trans (congrArg some (by kernel_rfl))
 t0 := Try.underlying0
 a0 := Try.isAgg0
 z0 := Try.sizeOf0
 v0 := Try.zeroValue0
 t3 := Try.underlying3
 a3 := Try.isAgg3
 z3 := Try.sizeOf3
 v3 := Try.zeroValue3
 t4 := Try.underlying4
 a4 := Try.isAgg4
 z4 := Try.sizeOf4
 v4 := Try.zeroValue4
 t5 := Try.underlying5
 a5 := Try.isAgg5
 z5 := Try.sizeOf5
 v5 := Try.zeroValue5
 t9 := Try.underlying9
 a9 := Try.isAgg9
 z9 := Try.sizeOf9
 v9 := Try.zeroValue9
 t31 := Try.underlying26
 a31 := Try.isAgg26
 z31 := Try.sizeOf26
 v31 := Try.zeroValue26
 t46 := Try.underlying97
 a46 := Try.isAgg97
 z46 := Try.sizeOf97
 v46 := Try.zeroValue97
 t51 := Try.underlying136
 a51 := Try.isAgg136
 z51 := Try.sizeOf136
 v51 := Try.zeroValue136
 t53 := Try.underlying69
 a53 := Try.isAgg69
 z53 := Try.sizeOf69
 v53 := Try.zeroValue69
 t131 := Try.underlying125
 a131 := Try.isAgg125
 z131 := Try.sizeOf125
 v131 := Try.zeroValue125
 t182 := Try.underlying129
 a182 := Try.isAgg129
 z182 := Try.sizeOf129
 v182 := Try.zeroValue129
 t183 := Try.underlying130
 a183 := Try.isAgg130
 z183 := Try.sizeOf130
 v183 := Try.zeroValue130
 t218 := Try.underlying140
 a218 := Try.isAgg140
 z218 := Try.sizeOf140
 v218 := Try.zeroValue140
 t222 := Try.underlying81
 a222 := Try.isAgg81
 z222 := Try.sizeOf81
 v222 := Try.zeroValue81
 t228 := Try.underlying146
 a228 := Try.isAgg146
 z228 := Try.sizeOf146
 v228 := Try.zeroValue146
 t229 := Try.underlying147
 a229 := Try.isAgg147
 z229 := Try.sizeOf147
 v229 := Try.zeroValue147 }
open Go.Sort Go.RowKit in
theorem Try.slices_Sort_string (blk off cap : Nat) (ss : List (List UInt8)) (w : World) (hH : Holds encStr w blk off ss.toArray) (hblk : blk < w.heap.size) (hsz : ss.length < 4611686018427387904) :
  Calls Try.prog 44 #[.slice (some ⟨blk, off, none⟩) ss.length cap] w fun e w' =>
   e = .returned (.tuple #[]) ∧ ∃ n os, w' = grow (putRow encStr (Sort.ahead w n) blk off (ss.mergeSort fun x y => decide (x ≤ y)).toArray) os := Any.slices_Sort_string Try.lays190 blk off cap ss w hH hblk hsz
def Try.laysNm216_ren : Go.Shelf.Ren := ⟨fun | 16 => 43 | n => n, fun | 24 => 26 | 9 => 9 | 4 => 4 | n => n, fun | n => n⟩
theorem Try.laysNm216 : Go.Proofs.Lays2.n16 Try.prog Try.laysNm216_ren := {
 mixed := by kernel_rfl
 f16 := Try.func43.trans (congrArg some (by kernel_rfl))
 t4 := Try.underlying4
 a4 := Try.isAgg4
 z4 := Try.sizeOf4
 v4 := Try.zeroValue4
 t9 := Try.underlying9
 a9 := Try.isAgg9
 z9 := Try.sizeOf9
 v9 := Try.zeroValue9
 t24 := Try.underlying26
 a24 := Try.isAgg26
 z24 := Try.sizeOf26
 v24 := Try.zeroValue26
 i9 := by kernel_rfl }
open Go.RowKit Go.Lib in
theorem Try.slices_Clone_string (b off n c : Nat) (zs : List ByteArray) (w : World) (hz : n ≤ zs.length) (hbig : n * 16 ≤ 140737488355328) (hc : ∀ j, j < zs.length → w.cell? ⟨b, off + j, none⟩ = some (.string (zs.getD j ByteArray.empty))) :
  Calls Try.prog 43 #[.slice (some ⟨b, off, none⟩) n c] w fun e w' => ∃ v', e = .returned v' ∧ w'.ownsRow w.heap.size 9 1 v' n ((zs.take n).map (Value.string)) ∧ v' ≠ .slice none 0 0 ∧ Below w.heap.size w w' := Any.slices_Clone_string Try.laysNm216 b off n c zs w hz hbig hc
open Go.RowKit Go.Lib in
theorem Try.slices_Clone_string_nil (n c : Nat) (w : World) :
  Calls Try.prog 43 #[.slice none n c] w fun e w' => e = .returned (.slice none 0 0) ∧ w' = w := Any.slices_Clone_string_nil Try.laysNm216 n c w
open Go.RowKit Go.Lib in
theorem Try.slices_Clone_string_zero (a : Addr) (c : Nat) (w : World) :
  Calls Try.prog 43 #[.slice (some a) 0 c] w fun e w' => ∃ v', e = .returned v' ∧ w'.ownsRow w.heap.size 9 1 v' 0 [] ∧ v' ≠ .slice none 0 0 ∧ Below w.heap.size w w' := Any.slices_Clone_string_zero Try.laysNm216 a c w
def Try.lays194_ren : Go.Shelf.Ren := ⟨fun | 194 => 45 | n => n, fun | 31 => 26 | 9 => 9 | 3 => 3 | 4 => 4 | 0 => 0 | n => n, fun | n => n⟩
theorem Try.lays194 : Go.Proofs.Lays.n194 Try.prog Try.lays194_ren := {
 mixed := by kernel_rfl
 f194 := Try.func45.trans (congrArg some (by kernel_rfl))
 t0 := Try.underlying0
 a0 := Try.isAgg0
 z0 := Try.sizeOf0
 v0 := Try.zeroValue0
 t3 := Try.underlying3
 a3 := Try.isAgg3
 z3 := Try.sizeOf3
 v3 := Try.zeroValue3
 t4 := Try.underlying4
 a4 := Try.isAgg4
 z4 := Try.sizeOf4
 v4 := Try.zeroValue4
 t9 := Try.underlying9
 a9 := Try.isAgg9
 z9 := Try.sizeOf9
 v9 := Try.zeroValue9
 t31 := Try.underlying26
 a31 := Try.isAgg26
 z31 := Try.sizeOf26
 v31 := Try.zeroValue26 }
open Go.RowKit Go.Lib Go.Sort in
theorem Try.slices_Compact_string (blk off cap : Nat) (zs : List (List UInt8)) (w : World) (hH : Holds encStr w blk off zs.toArray) (hsz : zs.length ≤ 9223372036854775807) (hcap : zs.length ≤ cap) :
  Calls Try.prog 45 #[.slice (some ⟨blk, off, none⟩) zs.length cap] w fun e w' => e = .returned (.slice (some ⟨blk, off, none⟩) (Lib.compact zs).length cap) ∧ ∃ q, w' = putRow encStr (Sort.ahead w q) blk off (Lib.compact zs ++ List.replicate (zs.length - (Lib.compact zs).length) []).toArray := Any.slices_Compact_string Try.lays194 blk off cap zs w hH hsz hcap
open Go.RowKit Go.Lib Go.Sort in
theorem Try.slices_Compact_string_empty (a : Option Addr) (cap : Nat) (w : World) :
  Calls Try.prog 45 #[.slice a 0 cap] w fun e w' => e = .returned (.slice a 0 cap) ∧ w' = w := Any.slices_Compact_string_empty Try.lays194 a cap w
open Go.RowKit Go.Sort in
theorem Try.slices_Sort_string_none (p : Option Addr) (cap : Nat) (w : World) :
  Calls Try.prog 44 #[.slice p 0 cap] w fun e w' => e = .returned (.tuple #[]) ∧ w' = w := Any.slices_Sort_string_none Try.lays190 p cap w
end Go.Proofs
namespace Go.Proofs.Ytibnhjfeepdddaa
open Go.RowKit
set_option linter.unusedVariables false

abbrev st : List UInt8 → Value := fun s => .string (str s)
end Go.Proofs.Ytibnhjfeepdddaa
namespace Go.Proofs.Ytibnhjfeepdddaa
open Go.RowKit Go.Shelf
set_option linter.unusedVariables false
set_option linter.unusedSimpArgs false
/-- slices.Clone of texts: a list of its own. -/
def Cloned (w : World) (ss : List (List UInt8)) (e : Ending) (w' : World) : Prop := ∃ v', e = .returned v' ∧ w'.ownsRow w.heap.size 9 1 v' ss.length (ss.map encStr) ∧ v' ≠ .slice none 0 0 ∧ Below w.heap.size w w'
theorem clone_is (a : Addr) (n cap : Nat) (l : List (List UInt8)) (w : World) (hn : n = l.length) (hB : Rd st w (some a) cap l) (hl : l.length ≤ 500) :
  Calls Try.prog 43 #[.slice (some a) n cap] w (Cloned w l) := by
 subst hn
 by_cases h0 : l = []
 ·subst h0
  exact (Try.slices_Clone_string_zero a cap w).mono fun e w' h => h
 ·have hpos : 0 < l.length := List.length_pos_iff.2 h0
  obtain ⟨b, off, e, _⟩ := hB.at hpos
  cases e
  refine (Try.slices_Clone_string b off l.length cap (l.map str) w (by simp) (by omega) ?_).mono ?_
  ·intro j hj
   have hj' : j < l.length := by simpa using hj
   obtain ⟨b', off', e', hc⟩ := hB.at hj'
   cases e'
   rw [hc]
   simp [List.getD, List.getElem?_map, List.getElem?_eq_getElem hj']
  ·rintro e w' ⟨v', he, ho, hne, hb⟩
   refine ⟨v', he, ?_, hne, hb⟩
   have e2 : ((l.map str).take l.length).map Value.string = l.map encStr := by
    rw [List.take_of_length_le (by simp), List.map_map]
    rfl
   rw [e2] at ho
   exact ho
theorem count_left {w w1 : World} {g cap n nn q : Nat} {os : Array Obj} {ss : List (List UInt8)} (hown : w1.ownsRow w.heap.size 9 1 (.slice (some ⟨g, 0, none⟩) n cap) n (ss.map encStr)) (hbel : Below w.heap.size w w1) (hbg : w.heap.size ≤ g) :
  Ex w (Sort.putRow encStr (Sort.ahead (Sort.grow (Sort.putRow encStr (Sort.ahead w1 nn) g 0 (ss.mergeSort fun x y => decide (x ≤ y)).toArray) os) q) g 0 (Lib.compact (ss.mergeSort fun x y => decide (x ≤ y)) ++ List.replicate (n - (Lib.compact (ss.mergeSort fun x y => decide (x ≤ y))).length) []).toArray) := by
 rcases hown.2 with ⟨h0, _⟩ | ⟨g', cap', cur, hv, hbase, hb, h1, h2, h3, h4⟩
 ·cases h0
 cases hv
 exact Lib.below_putRow (hbel.grown (grownBy_sorted _) hbel.size (fun j hj => by cases hj; exact hbase)) hbg
set_option maxHeartbeats 2000000 in
set_option maxRecDepth 100000 in
theorem count_some (a : Addr) (n cap : Nat) (ss : List (List UInt8)) (w : World) (hn : n = ss.length) (hB : Rd st w (some a) cap ss) (hl : ss.length ≤ 500) (k : Nat) (hk : (T.bld ss).length = k) :
  Calls Try.prog 25 #[.slice (some a) n cap] w fun e w' => e = .returned (.int .i64 k) ∧ Ex w w' := by
 subst hn
 have hkl : k ≤ 500 := by rw [← hk]; exact Nat.le_trans (T.bld_len ss) hl
 have HK : Hid (Lib.compact (ss.mergeSort fun x y => decide (x ≤ y)) = T.bld ss ∧ (T.bld ss).length = k) := (⟨T.cmp_bld ss, hk⟩ : Lib.compact (ss.mergeSort fun x y => decide (x ≤ y)) = T.bld ss ∧ (T.bld ss).length = k)
 have HB : Hid (Rd st w (some a) cap ss) := hB
 clear hB hk
 go_enter Try.func25, Try.ntmps25
 go_wp2_with fail
 refine (clone_is a _ cap ss w rfl HB.out hl).mono ?_
 rintro e w1 ⟨v1, rfl, hown, hnn, hbel⟩
 obtain ⟨g, cap', rfl, hbg, hgl, hncap, hcm, hlen, hH⟩ := Lib.holds_of_ownsRow hown hnn
 have X : Hid (w1.ownsRow w.heap.size 9 1 (.slice (some ⟨g, 0, none⟩) ss.length cap') ss.length (ss.map encStr) ∧ Below w.heap.size w w1 ∧ Sort.Holds encStr w1 g 0 ss.toArray) := (⟨hown, hbel, hH⟩ : _ ∧ _ ∧ _)
 clear hown hbel hH hnn
 go_wp2_with fail
 refine (Try.slices_Sort_string g 0 cap' ss w1 X.out.2.2 hgl (by omega)).mono ?_
 rintro e w2 ⟨rfl, nn, os, hw2⟩
 have hl2 : (ss.mergeSort fun x y => decide (x ≤ y)).length = ss.length := List.length_mergeSort ss
 have hH2 : Sort.Holds encStr w2 g 0 (ss.mergeSort fun x y => decide (x ≤ y)).toArray := by
  rw [hw2]
  exact Sort.holds_grow encStr _ os g 0 _ (by simpa [Sort.putRow, Sort.mapBlock, Sort.ahead] using hgl) (Sort.holds_putRow encStr _ g 0 _ _ (Sort.holds_ahead encStr w1 nn g 0 _ X.out.2.2) (by simp))
 have hcomp := Try.slices_Compact_string g 0 cap' (ss.mergeSort fun x y => decide (x ≤ y)) w2 hH2 (by omega) (by omega)
 rw [hl2] at hcomp
 have HC : Hid _ := hcomp
 have HW2 : Hid _ := hw2
 clear hcomp hw2 hH2 hl2
 go_wp2_with fail
 refine Calls.mono HC.out ?_
 rintro e w3 ⟨rfl, q, hw3⟩
 have HX3 : Hid (Ex w w3) := (by rw [hw3, HW2.out]; exact count_left X.out.1 X.out.2.1 hbg : Ex w w3)
 rw [HK.out.1, HK.out.2]
 clear hw3
 go_wp2_with fail
 go_ret
 exact ⟨rfl, HX3.out⟩
set_option maxHeartbeats 2000000 in
theorem count_nil (w : World) :
  Calls Try.prog 25 #[.slice none 0 0] w fun e w' => e = .returned (.int .i64 0) ∧ Ex w w' := by
 go_enter Try.func25, Try.ntmps25
 go_wp2_with fail
 refine (Try.slices_Clone_string_nil 0 0 w).mono ?_
 rintro e w1 ⟨rfl, hw⟩
 have hw' := hw.symm; clear hw; subst hw'
 go_wp2_with fail
 refine (Try.slices_Sort_string_none none 0 w).mono ?_
 rintro e w1 ⟨rfl, hw⟩
 have hw' := hw.symm; clear hw; subst hw'
 go_wp2_with fail
 refine (Try.slices_Compact_string_empty none 0 w).mono ?_
 rintro e w1 ⟨rfl, hw⟩
 have hw' := hw.symm; clear hw; subst hw'
 go_wp2_with fail
 go_ret
 exact ⟨rfl, Ex.refl w⟩
theorem count_is (a : Option Addr) (n cap : Nat) (l : List (List UInt8)) (w : World) (hn : n = l.length) (hB : Rd st w a cap l) (hl : l.length ≤ 500) (k : Nat) (hk : (T.bld l).length = k) :
  Calls Try.prog 25 #[.slice a n cap] w fun e w' => e = .returned (.int .i64 k) ∧ Ex w w' := by
 cases a with
 | some a => exact count_some a n cap l w hn hB hl k hk
 | none =>
  have hc : cap = 0 := hB.2.2.1 rfl
  have h0 := hB.1
  have hl0 : l = [] := List.length_eq_zero_iff.1 (by omega)
  subst hl0
  subst hc
  subst hn
  have hk0 : k = 0 := by rw [← hk]; rfl
  subst hk0
  exact count_nil w
end Go.Proofs.Ytibnhjfeepdddaa
namespace Go.Proofs.Ytibnhjfeepdddaa.I
open Go

theorem xor_nat (k : IntKind) (j : Nat) (hj : j ≤ k.bits) (hk : ∀ n : Int, 0 ≤ n → n < 2 ^ j → k.wrap n = n) (a b : Nat) (ha : a < 2 ^ j) (hb : b < 2 ^ j) :
  bits .xor k a b = ((a ^^^ b : Nat) : Int) := by
 have hp : 2 ^ j ≤ 2 ^ k.bits := Nat.pow_le_pow_right (by decide) hj
 have ha' : a % 2 ^ k.bits = a := Nat.mod_eq_of_lt (Nat.lt_of_lt_of_le ha hp)
 have hb' : b % 2 ^ k.bits = b := Nat.mod_eq_of_lt (Nat.lt_of_lt_of_le hb hp)
 have cast : ∀ n : Nat, n < 2 ^ j → ((n : Nat) : Int) < 2 ^ j := fun n h => by exact_mod_cast h
 simp only [bits, BitVec.ofInt_natCast, BitVec.toNat_xor, BitVec.toNat_ofNat, ha', hb']
 exact hk _ (Int.natCast_nonneg _) (cast _ (Nat.xor_lt_two_pow ha hb))
theorem w8 (n : Int) : IntKind.u8.wrap n = n % 256 := by simp [IntKind.wrap, IntKind.bits, IntKind.signed]
theorem xor64 (A B : Int) (a b : Nat) (hA : A = a) (hB : B = b) (ha : a < 18446744073709551616) (hb : b < 18446744073709551616) : bits .xor .u64 A B = ((a ^^^ b : Nat) : Int) := by
 subst hA; subst hB; exact xor_nat .u64 64 (by decide) wraps64 a b (by omega) (by omega)
theorem or8 (a b : Nat) (ha : a < 256) (hb : b < 256) : bits .or .u8 (a : Int) (b : Int) = ((a ||| b : Nat) : Int) :=
 (bits_nat .u8 8 (by decide) wraps_u8 a b (by omega) (by omega)).2
/-- One step of FNV. -/
theorem fnv_num (h b : Nat) (x : UInt8) (hh : h < 18446744073709551616) (hb : b = x.toNat) : (bits .xor .u64 (h : Int) (b : Int) * 1099511628211) % 18446744073709551616 = ((S.fnvStep h x : Nat) : Int) := by
 subst hb
 have hx := x.toNat_lt
 rw [xor64 _ _ h x.toNat rfl rfl hh (by omega)]
 unfold S.fnvStep
 omega
end Go.Proofs.Ytibnhjfeepdddaa.I
