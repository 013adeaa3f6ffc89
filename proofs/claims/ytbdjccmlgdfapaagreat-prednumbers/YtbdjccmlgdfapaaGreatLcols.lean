/-
  The library functions that package pred calls, by the contracts that the library holds of them, laid at this program: slices.Sort and slices.Compact of texts. The library functions that package pred calls, by the contracts that the library holds of them, laid at this program: slices.Sort and slices.Compact of texts. The landed addCols and Cols: the columns that a predicate names.
-/
import Derived.Shelf.Sort.Plain
import Derived.Shelf.Slices.CompactS
import Derived.Shelf.Slices.In.SortNone
import Derived.Test.YtbdjccmlgdfapaaGreatProg
import Derived.Test.YtbdjccmlgdfapaaGreatPstep
import Derived.Test.YtbdjccmlgdfapaaGreatRtexts
import Derived.Sort.OwnSorted
import Derived.Sort.Grow
import Derived.Lib.OwnBridge
namespace Go.Proofs
open Go.Shelf
def Tryz.lays190_ren : Go.Shelf.Ren := ⟨fun | 190 => 44 | 125 => 66 | 258 => 65 | 128 => 99 | 129 => 100 | 302 => 90 | 303 => 91 | 304 => 92 | 305 => 93 | 306 => 94 | 307 => 95 | 308 => 96 | 309 => 97 | 310 => 98 | 333 => 108 | 329 => 109 | 330 => 110 | 334 => 111 | 335 => 112 | 336 => 113 | 344 => 117 | n => n, fun | 31 => 30 | 9 => 9 | 3 => 3 | 46 => 91 | 0 => 0 | 51 => 116 | 53 => 81 | 4 => 4 | 183 => 110 | 182 => 109 | 131 => 93 | 5 => 5 | 218 => 126 | 222 => 63 | 228 => 132 | 229 => 133 | n => n, fun | n => n⟩
theorem Tryz.lays190 : Go.Proofs.Lays.n190 Tryz.prog Tryz.lays190_ren := {
 mixed := by kernel_rfl
 f125 := Tryz.func66.trans (congrArg some (by kernel_rfl))
 f128 := Tryz.func99.trans (congrArg some (by kernel_rfl))
 f129 := Tryz.func100.trans (congrArg some (by kernel_rfl))
 f190 := Tryz.func44.trans (congrArg some (by kernel_rfl))
 f258 := Tryz.func65.trans (congrArg some (by kernel_rfl))
 f302 := Tryz.func90.trans (congrArg some (by kernel_rfl))
 f303 := Tryz.func91.trans (congrArg some (by kernel_rfl))
 f304 := Tryz.func92.trans (congrArg some (by kernel_rfl))
 f305 := Tryz.func93.trans (congrArg some (by kernel_rfl))
 f306 := Tryz.func94.trans (congrArg some (by kernel_rfl))
 f307 := Tryz.func95.trans (congrArg some (by kernel_rfl))
 f308 := Tryz.func96.trans (congrArg some (by kernel_rfl))
 f309 := Tryz.func97.trans (congrArg some (by kernel_rfl))
 f310 := Tryz.func98.trans (congrArg some (by kernel_rfl))
 f329 := Tryz.func109.trans (congrArg some (by kernel_rfl))
 f330 := Tryz.func110.trans (congrArg some (by kernel_rfl))
 f333 := Tryz.func108.trans (congrArg some (by kernel_rfl))
 f334 := Tryz.func111.trans (congrArg some (by kernel_rfl))
 f335 := Tryz.func112.trans (congrArg some (by kernel_rfl))
 f336 := Tryz.func113.trans (congrArg some (by kernel_rfl))
 f344 := Tryz.func117.trans (congrArg some (by kernel_rfl))
 t0 := Tryz.underlying0
 a0 := Tryz.isAgg0
 z0 := Tryz.sizeOf0
 v0 := Tryz.zeroValue0
 t3 := Tryz.underlying3
 a3 := Tryz.isAgg3
 z3 := Tryz.sizeOf3
 v3 := Tryz.zeroValue3
 t4 := Tryz.underlying4
 a4 := Tryz.isAgg4
 z4 := Tryz.sizeOf4
 v4 := Tryz.zeroValue4
 t5 := Tryz.underlying5
 a5 := Tryz.isAgg5
 z5 := Tryz.sizeOf5
 v5 := Tryz.zeroValue5
 t9 := Tryz.underlying9
 a9 := Tryz.isAgg9
 z9 := Tryz.sizeOf9
 v9 := Tryz.zeroValue9
 t31 := Tryz.underlying30
 a31 := Tryz.isAgg30
 z31 := Tryz.sizeOf30
 v31 := Tryz.zeroValue30
 t46 := Tryz.underlying91
 a46 := Tryz.isAgg91
 z46 := Tryz.sizeOf91
 v46 := Tryz.zeroValue91
 t51 := Tryz.underlying116
 a51 := Tryz.isAgg116
 z51 := Tryz.sizeOf116
 v51 := Tryz.zeroValue116
 t53 := Tryz.underlying81
 a53 := Tryz.isAgg81
 z53 := Tryz.sizeOf81
 v53 := Tryz.zeroValue81
 t131 := Tryz.underlying93
 a131 := Tryz.isAgg93
 z131 := Tryz.sizeOf93
 v131 := Tryz.zeroValue93
 t182 := Tryz.underlying109
 a182 := Tryz.isAgg109
 z182 := Tryz.sizeOf109
 v182 := Tryz.zeroValue109
 t183 := Tryz.underlying110
 a183 := Tryz.isAgg110
 z183 := Tryz.sizeOf110
 v183 := Tryz.zeroValue110
 t218 := Tryz.underlying126
 a218 := Tryz.isAgg126
 z218 := Tryz.sizeOf126
 v218 := Tryz.zeroValue126
 t222 := Tryz.underlying63
 a222 := Tryz.isAgg63
 z222 := Tryz.sizeOf63
 v222 := Tryz.zeroValue63
 t228 := Tryz.underlying132
 a228 := Tryz.isAgg132
 z228 := Tryz.sizeOf132
 v228 := Tryz.zeroValue132
 t229 := Tryz.underlying133
 a229 := Tryz.isAgg133
 z229 := Tryz.sizeOf133
 v229 := Tryz.zeroValue133 }
open Go.Sort Go.RowKit in
theorem Tryz.slices_Sort_string (blk off cap : Nat) (ss : List (List UInt8)) (w : World) (hH : Holds encStr w blk off ss.toArray) (hblk : blk < w.heap.size) (hsz : ss.length < 4611686018427387904) :
  Calls Tryz.prog 44 #[.slice (some ⟨blk, off, none⟩) ss.length cap] w fun e w' =>
   e = .returned (.tuple #[]) ∧ ∃ n os, w' = grow (putRow encStr (Sort.ahead w n) blk off (ss.mergeSort fun x y => decide (x ≤ y)).toArray) os := Any.slices_Sort_string Tryz.lays190 blk off cap ss w hH hblk hsz
def Tryz.lays194_ren : Go.Shelf.Ren := ⟨fun | 194 => 45 | n => n, fun | 31 => 30 | 9 => 9 | 3 => 3 | 4 => 4 | 0 => 0 | n => n, fun | n => n⟩
theorem Tryz.lays194 : Go.Proofs.Lays.n194 Tryz.prog Tryz.lays194_ren := {
 mixed := by kernel_rfl
 f194 := Tryz.func45.trans (congrArg some (by kernel_rfl))
 t0 := Tryz.underlying0
 a0 := Tryz.isAgg0
 z0 := Tryz.sizeOf0
 v0 := Tryz.zeroValue0
 t3 := Tryz.underlying3
 a3 := Tryz.isAgg3
 z3 := Tryz.sizeOf3
 v3 := Tryz.zeroValue3
 t4 := Tryz.underlying4
 a4 := Tryz.isAgg4
 z4 := Tryz.sizeOf4
 v4 := Tryz.zeroValue4
 t9 := Tryz.underlying9
 a9 := Tryz.isAgg9
 z9 := Tryz.sizeOf9
 v9 := Tryz.zeroValue9
 t31 := Tryz.underlying30
 a31 := Tryz.isAgg30
 z31 := Tryz.sizeOf30
 v31 := Tryz.zeroValue30 }
open Go.RowKit Go.Lib Go.Sort in
theorem Tryz.slices_Compact_string (blk off cap : Nat) (zs : List (List UInt8)) (w : World) (hH : Holds encStr w blk off zs.toArray) (hsz : zs.length ≤ 9223372036854775807) (hcap : zs.length ≤ cap) :
  Calls Tryz.prog 45 #[.slice (some ⟨blk, off, none⟩) zs.length cap] w fun e w' => e = .returned (.slice (some ⟨blk, off, none⟩) (Lib.compact zs).length cap) ∧ ∃ q, w' = putRow encStr (Sort.ahead w q) blk off (Lib.compact zs ++ List.replicate (zs.length - (Lib.compact zs).length) []).toArray := Any.slices_Compact_string Tryz.lays194 blk off cap zs w hH hsz hcap
open Go.RowKit Go.Lib Go.Sort in
theorem Tryz.slices_Compact_string_empty (a : Option Addr) (cap : Nat) (w : World) :
  Calls Tryz.prog 45 #[.slice a 0 cap] w fun e w' => e = .returned (.slice a 0 cap) ∧ w' = w := Any.slices_Compact_string_empty Tryz.lays194 a cap w
open Go.RowKit Go.Sort in
theorem Tryz.slices_Sort_string_none (p : Option Addr) (cap : Nat) (w : World) :
  Calls Tryz.prog 44 #[.slice p 0 cap] w fun e w' => e = .returned (.tuple #[]) ∧ w' = w := Any.slices_Sort_string_none Tryz.lays190 p cap w
end Go.Proofs
namespace Go.Proofs.YtbdjccmlgdfapaaGreat
open Go.RowKit Go.Shelf
set_option linter.unusedVariables false
set_option linter.unusedSimpArgs false
theorem Pd.flat_len : ∀ l : List Pr, ((l.map Pd.clist).flatten).length ≤ (l.map Pd.size).sum
 | [] => by simp
 | x :: t => by
  have h1 := Pd.flat_len t
  have h2 := Pd.clist_len x
  rw [List.map_cons, List.flatten_cons, List.length_append, List.map_cons, List.sum_cons]
  omega
theorem OwnR.lt' {e : TypeId} {enc : List UInt8 → Value} {w : World} {base : Nat} {v : Value} {l : List (List UInt8)} (h : OwnR e enc w base v l) : ∀ g, v.ownBlock = some g → base ≤ g ∧ g < w.heap.size := fun g hg => World.ownsRow.lt h g hg
set_option maxHeartbeats 4000000 in
set_option maxRecDepth 100000 in
theorem addCols_is : ∀ (p : Pr) (v : PV) (base : Nat) (u : Value) (L : List (List UInt8)) (w : World), Pd.Lay (fun b => b < base) p w v → OwnR 9 st w base u L → base ≤ w.heap.size → L.length + Pd.size p ≤ 100000 →
  Calls Tryz.prog 43 #[u, pvv v] w fun e w' => ∃ u', e = .returned u' ∧ OwnR 9 st w' base u' (L ++ Pd.clist p) ∧ Below base w w' := by
 refine Pd.tree ?_
 intro h l ih v base u L w hL hO hbs hlen
 obtain ⟨hHd, hkn, hkB, hkc, hkm, hk0⟩ := hL.head
 obtain ⟨vk, vcol, vn, vm, vs, vset, ⟨p, n, cap⟩⟩ := v
 simp only at hkn hkB hkc hkm hk0
 subst hkn
 unfold maxLen at hkm
 have hcol : vcol = h.col := hHd.1.2.1
 have HIH : Hid (∀ k ∈ l, ∀ (v : PV) (base : Nat) (u : Value) (L : List (List UInt8)) (w : World), Pd.Lay (fun b => b < base) k w v → OwnR 9 st w base u L → base ≤ w.heap.size → L.length + Pd.size k ≤ 100000 →
  Calls Tryz.prog 43 #[u, pvv v] w fun e w' => ∃ u', e = .returned u' ∧ OwnR 9 st w' base u' (L ++ Pd.clist k) ∧ Below base w w') := ih
 have HLw : Hid (Pd.Lay (fun b => b < base) (Pr.mk' h l) w ⟨vk, vcol, vn, vm, vs, vset, p, l.length, cap⟩) := hL
 have HBS : Hid (base ≤ w.heap.size) := hbs
 have HLEN : Hid (L.length + (1 + (l.map Pd.size).sum) ≤ 100000) := (by rw [Pd.size_mk] at hlen; exact hlen : L.length + (1 + (l.map Pd.size).sum) ≤ 100000)
 have HCL : Hid (Pd.clist (Pr.mk' h l) = Pd.own h ++ (l.map Pd.clist).flatten) := Pd.clist_mk h l
 obtain ⟨W, hW⟩ : ∃ W, w.alloc (pb ⟨vk, vcol, vn, vm, vs, vset, p, l.length, cap⟩) = W := ⟨_, rfl⟩
 have HBW : Hid (Below base w W) := (by rw [← hW]; exact (Below.refl _ _).alloc hbs _ : Below base w W)
 have HP : Hid (PAt W w.heap.size ⟨vk, vcol, vn, vm, vs, vset, p, l.length, cap⟩) := (by rw [← hW]; exact PAt.new w _ : PAt W w.heap.size _)
 have HO : Hid (OwnR 9 st W base u L) := (by rw [← hW]; exact hO.alloc _ : OwnR 9 st W base u L)
 have HSZ : Hid (W.heap.size = w.heap.size + 1) := (by rw [← hW]; simp : W.heap.size = w.heap.size + 1)
 have HOB : Hid (∀ g, u.ownBlock = some g → base ≤ g ∧ g < w.heap.size) := hO.lt'
 obtain ⟨p0, p1, p2, p3, p4, p5, p6⟩ := HP.out.all
 simp only at p0 p1 p2 p3 p4 p5 p6
 clear hL hO hHd hkB ih hbs hlen
 unfold pvv
 simp only [sv]
 go_enter Tryz.func43, Tryz.ntmps43
 by_cases hc : vcol = []
 ·subst hc
  have HOW : Hid (Pd.own h = []) := (by unfold Pd.own; rw [if_pos hcol.symm] : Pd.own h = [])
  clear hcol
  have z1 := str_toList ([] : List UInt8)
  go_wp2_with fail
  clear z1
  have HOS : Hid (OwnR 9 st W base u (L ++ ((l.take 0).map Pd.clist).flatten)) := (by simpa using HO.out : OwnR 9 st _ base _ (L ++ ((l.take 0).map Pd.clist).flatten))
  go_loopw [18, 0, 6] (fun iv ov kv wr => ∃ i : Nat, i ≤ l.length ∧ iv = .int .i64 i ∧ Hid (OwnR 9 st wr base ov (L ++ ((l.take i).map Pd.clist).flatten)) ∧ Hid (Below base w wr)) (fun iv ov kv wr => l.length - (intOf iv).toNat)
  case atStart => exact ⟨0, by omega, rfl, HOS, HBW⟩
  case round =>
   obtain ⟨i, hi, rfl, HOr, HXr⟩ := hrel
   by_cases hlt : i < l.length
   ·have hti : (i : Int) < (l.length : Int) := by omega
    have hLr := Pd.Lay.under (fun b hb => hb) _ HLw.out HXr.out
    obtain ⟨b, off, x, hpp, hbg, hLk, e0, e1, e2, e3, e4, e5, e6⟩ := hLr.kid hlt
    simp only at hpp
    obtain ⟨k, hk⟩ : ∃ k, l[i] = k := ⟨_, rfl⟩
    rw [hk] at hLk
    have HK : Hid (k ∈ l) := (by rw [← hk]; exact List.getElem_mem hlt : k ∈ l)
    have HNX : Hid (L ++ ((l.take i).map Pd.clist).flatten ++ Pd.clist k = L ++ ((l.take (i + 1)).map Pd.clist).flatten) := (by rw [List.take_add_one, List.getElem?_eq_getElem hlt, hk]; simp : L ++ ((l.take i).map Pd.clist).flatten ++ Pd.clist k = L ++ ((l.take (i + 1)).map Pd.clist).flatten)
    have HKL : Hid ((L ++ ((l.take i).map Pd.clist).flatten).length + Pd.size k ≤ 100000) := (by
     have h1 := HLEN.out
     have h2 := Pd.sum_take l (i + 1)
     have h3 := Pd.flat_len (l.take i)
     have h4 : ((l.take (i + 1)).map Pd.size).sum = ((l.take i).map Pd.size).sum + Pd.size k := by rw [List.take_add_one, List.getElem?_eq_getElem hlt, hk]; simp
     simp only [List.length_append, List.length_cons, List.length_nil] at h3 ⊢
     omega : (L ++ ((l.take i).map Pd.clist).flatten).length + Pd.size k ≤ 100000)
    obtain ⟨w3, hw3⟩ : ∃ w3, wr.alloc (pb x) = w3 := ⟨_, rfl⟩
    have hbr : base ≤ wr.heap.size := Nat.le_trans HBS.out HXr.out.size
    have hB3 : Below base wr w3 := by rw [← hw3]; exact (Below.refl _ _).alloc hbr _
    have HB3 : Hid (Below base w w3) := (HXr.out.trans hB3 : Below base w w3)
    have HC3 : Hid (Calls Tryz.prog 43 #[u0, pvv x] w3 fun e w' => ∃ u', e = .returned u' ∧ OwnR 9 st w' base u' (L ++ ((l.take i).map Pd.clist).flatten ++ Pd.clist k) ∧ Below base w3 w') := HIH.out k HK.out x base u0 _ w3 (Pd.Lay.under (fun b hb => hb) _ hLk hB3) (by rw [← hw3]; exact HOr.out.alloc _) (Nat.le_trans hbr hB3.size) HKL.out
    have HP3 : Hid (PAt w3 wr.heap.size x) := (by rw [← hw3]; exact PAt.new wr x : PAt w3 wr.heap.size x)
    obtain ⟨q0, q1, q2, q3, q4, q5, q6⟩ := HP3.out.all
    subst hpp
    clear hLr hLk hk hB3 hbg hbr HKL
    go_wp2_with fail
    go_at_call 43
    refine Calls.mono HC3.out ?_
    rintro e w4 ⟨u4, rfl, ho4, hx4⟩
    have HO4 : Hid (OwnR 9 st w4 base u4 (L ++ ((l.take (i + 1)).map Pd.clist).flatten)) := (by rw [← HNX.out]; exact ho4 : OwnR 9 st w4 base u4 _)
    have HX4 : Hid (Below base w w4) := (HB3.out.trans hx4 : Below base w w4)
    clear ho4 hx4 HC3
    go_wp2_with fail
    go_roundw
    case rel => exact ⟨i + 1, by omega, by go_num, HO4, HX4⟩
    case measure => simp [intOf]; omega
   ·have hti : ¬ (i : Int) < (l.length : Int) := by omega
    have HO9 : Hid (OwnR 9 st wr base u0 (L ++ Pd.clist (Pr.mk' h l))) := (by
     have h := HOr.out
     rw [List.take_of_length_le (by omega)] at h
     rw [HCL.out]
     rw [HOW.out, List.nil_append]; exact h : OwnR 9 st wr base u0 (L ++ Pd.clist (Pr.mk' h l)))
    go_wp2_with fail
    go_ret
    exact ⟨_, rfl, HO9.out, HXr.out⟩
 ·have HOW : Hid (Pd.own h = [vcol]) := (by unfold Pd.own; rw [if_neg (by rw [← hcol]; exact hc), hcol] : Pd.own h = [vcol])
  have bb : (vcol == []) = false := beq_eq_false_iff_ne.2 hc
  have z1 := str_toList vcol
  obtain ⟨x0, xs, hxx⟩ : ∃ x0 xs, vcol = x0 :: xs := List.exists_cons_of_ne_nil hc
  have z2 : ¬ vcol = [] := hc
  clear hcol hc hxx
  have HO2 : Hid (OwnR 9 st (W.alloc (.cells #[.string (str vcol)] 9)) base u L) := (by exact HO.out.alloc _ : OwnR 9 st (W.alloc (.cells #[.string (str vcol)] 9)) base u L)
  have HR2 : Hid (Rd st (W.alloc (.cells #[.string (str vcol)] 9)) (some ⟨W.heap.size, 0, none⟩) 1 [vcol]) := (by exact Rd.laid W 9 [vcol] (by simp) : Rd st (W.alloc (.cells #[.string (str vcol)] 9)) (some ⟨W.heap.size, 0, none⟩) 1 [vcol])
  have HP2 : Hid (PAt (W.alloc (.cells #[.string (str vcol)] 9)) w.heap.size ⟨vk, vcol, vn, vm, vs, vset, p, l.length, cap⟩) := (by exact HP.out.alloc _ : PAt (W.alloc (.cells #[.string (str vcol)] 9)) w.heap.size _)
  have HB2 : Hid (Below base w (W.alloc (.cells #[.string (str vcol)] 9))) := (by exact HBW.out.alloc (Nat.le_trans HBS.out HBW.out.size) _ : Below base w (W.alloc (.cells #[.string (str vcol)] 9)))
  have HLL : Hid (L.length ≤ 100000) := (by have := HLEN.out; omega : L.length ≤ 100000)
  have hstep : ∀ v9 w9, OwnR 9 st w9 base v9 (L ++ [vcol]) → World.grownBy (W.alloc (.cells #[.string (str vcol)] 9)) w9 u.ownBlock → Hid (PAt w9 w.heap.size ⟨vk, vcol, vn, vm, vs, vset, p, l.length, cap⟩) ∧ Hid (Below base w w9) := by
   intro v9 w9 ho9 hg9
   exact ⟨HP2.out.far hg9 (fun e => by have := (HOB.out _ e).2; omega), HB2.out.grown hg9 (Nat.le_trans HBS.out HB2.out.size) (fun g hg => (HOB.out g hg).1)⟩
  go_wp2_with (at_builtin; refine wpList_append_rd_at (e := 9) (enc := st) rfl (.tmp 10) (.tmp 13) 30 rfl [] 16 Tryz.underlying30 Tryz.info9 rfl (fun _ => rfl) base u L rfl HO2.out _ _ _ [vcol] rfl rfl HR2.out (by have := HLL.out; simp [maxLen]; omega) (by have := HLL.out; simp; omega) (Nat.le_trans HBS.out HB2.out.size) ?_; intro v9 w9 ho9 hg9 hat9; obtain ⟨HP9, HB9⟩ := hstep v9 w9 ho9 hg9; have HO9 : Hid (OwnR 9 st w9 base v9 (L ++ [vcol])) := ho9; obtain ⟨c0, c1, c2, c3, c4, c5, c6⟩ := HP9.out.all; simp only at c0 c1 c2 c3 c4 c5 c6; clear ho9 hg9 hat9)
  clear hstep c0 c1 c2 c3 c4 c5 c6
  have HOS : Hid (OwnR 9 st w9 base v9 ((L ++ [vcol]) ++ ((l.take 0).map Pd.clist).flatten)) := (by simpa using HO9.out : OwnR 9 st _ base _ ((L ++ [vcol]) ++ ((l.take 0).map Pd.clist).flatten))
  go_loopw [18, 0, 6] (fun iv ov kv wr => ∃ i : Nat, i ≤ l.length ∧ iv = .int .i64 i ∧ Hid (OwnR 9 st wr base ov ((L ++ [vcol]) ++ ((l.take i).map Pd.clist).flatten)) ∧ Hid (Below base w wr)) (fun iv ov kv wr => l.length - (intOf iv).toNat)
  case atStart => exact ⟨0, by omega, rfl, HOS, HB9⟩
  case round =>
   obtain ⟨i, hi, rfl, HOr, HXr⟩ := hrel
   by_cases hlt : i < l.length
   ·have hti : (i : Int) < (l.length : Int) := by omega
    have hLr := Pd.Lay.under (fun b hb => hb) _ HLw.out HXr.out
    obtain ⟨b, off, x, hpp, hbg, hLk, e0, e1, e2, e3, e4, e5, e6⟩ := hLr.kid hlt
    simp only at hpp
    obtain ⟨k, hk⟩ : ∃ k, l[i] = k := ⟨_, rfl⟩
    rw [hk] at hLk
    have HK : Hid (k ∈ l) := (by rw [← hk]; exact List.getElem_mem hlt : k ∈ l)
    have HNX : Hid ((L ++ [vcol]) ++ ((l.take i).map Pd.clist).flatten ++ Pd.clist k = (L ++ [vcol]) ++ ((l.take (i + 1)).map Pd.clist).flatten) := (by rw [List.take_add_one, List.getElem?_eq_getElem hlt, hk]; simp : (L ++ [vcol]) ++ ((l.take i).map Pd.clist).flatten ++ Pd.clist k = (L ++ [vcol]) ++ ((l.take (i + 1)).map Pd.clist).flatten)
    have HKL : Hid (((L ++ [vcol]) ++ ((l.take i).map Pd.clist).flatten).length + Pd.size k ≤ 100000) := (by
     have h1 := HLEN.out
     have h2 := Pd.sum_take l (i + 1)
     have h3 := Pd.flat_len (l.take i)
     have h4 : ((l.take (i + 1)).map Pd.size).sum = ((l.take i).map Pd.size).sum + Pd.size k := by rw [List.take_add_one, List.getElem?_eq_getElem hlt, hk]; simp
     simp only [List.length_append, List.length_cons, List.length_nil] at h3 ⊢
     omega : ((L ++ [vcol]) ++ ((l.take i).map Pd.clist).flatten).length + Pd.size k ≤ 100000)
    obtain ⟨w3, hw3⟩ : ∃ w3, wr.alloc (pb x) = w3 := ⟨_, rfl⟩
    have hbr : base ≤ wr.heap.size := Nat.le_trans HBS.out HXr.out.size
    have hB3 : Below base wr w3 := by rw [← hw3]; exact (Below.refl _ _).alloc hbr _
    have HB3 : Hid (Below base w w3) := (HXr.out.trans hB3 : Below base w w3)
    have HC3 : Hid (Calls Tryz.prog 43 #[u0, pvv x] w3 fun e w' => ∃ u', e = .returned u' ∧ OwnR 9 st w' base u' ((L ++ [vcol]) ++ ((l.take i).map Pd.clist).flatten ++ Pd.clist k) ∧ Below base w3 w') := HIH.out k HK.out x base u0 _ w3 (Pd.Lay.under (fun b hb => hb) _ hLk hB3) (by rw [← hw3]; exact HOr.out.alloc _) (Nat.le_trans hbr hB3.size) HKL.out
    have HP3 : Hid (PAt w3 wr.heap.size x) := (by rw [← hw3]; exact PAt.new wr x : PAt w3 wr.heap.size x)
    obtain ⟨q0, q1, q2, q3, q4, q5, q6⟩ := HP3.out.all
    subst hpp
    clear hLr hLk hk hB3 hbg hbr HKL
    go_wp2_with fail
    go_at_call 43
    refine Calls.mono HC3.out ?_
    rintro e w4 ⟨u4, rfl, ho4, hx4⟩
    have HO4 : Hid (OwnR 9 st w4 base u4 ((L ++ [vcol]) ++ ((l.take (i + 1)).map Pd.clist).flatten)) := (by rw [← HNX.out]; exact ho4 : OwnR 9 st w4 base u4 _)
    have HX4 : Hid (Below base w w4) := (HB3.out.trans hx4 : Below base w w4)
    clear ho4 hx4 HC3
    go_wp2_with fail
    go_roundw
    case rel => exact ⟨i + 1, by omega, by go_num, HO4, HX4⟩
    case measure => simp [intOf]; omega
   ·have hti : ¬ (i : Int) < (l.length : Int) := by omega
    have HO9 : Hid (OwnR 9 st wr base u0 (L ++ Pd.clist (Pr.mk' h l))) := (by
     have h := HOr.out
     rw [List.take_of_length_le (by omega)] at h
     rw [HCL.out]
     rw [HOW.out, ← List.append_assoc]; exact h : OwnR 9 st wr base u0 (L ++ Pd.clist (Pr.mk' h l)))
    go_wp2_with fail
    go_ret
    exact ⟨_, rfl, HO9.out, HXr.out⟩
theorem cols_left {w w1 : World} {g cap n nn q : Nat} {os : Array Obj} {ss zs : List (List UInt8)} (hown : w1.ownsRow w.heap.size 9 1 (.slice (some ⟨g, 0, none⟩) n cap) n (ss.map encStr)) (hbel : Below w.heap.size w w1) (hbg : w.heap.size ≤ g) :
  Ex w (Sort.putRow encStr (Sort.ahead (Sort.grow (Sort.putRow encStr (Sort.ahead w1 nn) g 0 (ss.mergeSort fun x y => decide (x ≤ y)).toArray) os) q) g 0 zs.toArray) := by
 rcases hown.2 with ⟨h0, _⟩ | ⟨g', cap', cur, hv, hbase, hb, h1, h2, h3, h4⟩
 ·cases h0
 cases hv
 exact Lib.below_putRow (hbel.grown (grownBy_sorted _) hbel.size (fun j hj => by cases hj; exact hbase)) hbg
theorem rd_of_holds {w : World} {g n cap : Nat} {l r : List (List UInt8)} (h : Sort.Holds encStr w g 0 (l ++ r).toArray) (h1 : l.length ≤ cap) (h2 : cap ≤ maxLen) : Rd st w (some ⟨g, 0, none⟩) cap l := by
 refine ⟨h1, h2, by simp, fun i x hi => ⟨g, 0, rfl, ?_⟩⟩
 have hi' := (List.getElem?_eq_some_iff.1 hi)
 have h3 := (h i (by simp; have := hi'.1; omega)).1
 rw [getElem!_pos (l ++ r).toArray i (by simp; have := hi'.1; omega)] at h3
 rw [h3]
 have e : (l ++ r).toArray[i]'(by simp; have := hi'.1; omega) = x := by
  rw [← hi'.2]
  simp [List.getElem_append_left hi'.1]
 rw [e]
 rfl
set_option maxHeartbeats 4000000 in
set_option maxRecDepth 100000 in
theorem cols_is (p : Pr) (v : PV) (w : World) (h : Pd.Lay (fun _ => True) p w v) (hF : Pd.fit p 50 5000 = true) :
  Calls Tryz.prog 17 #[pvv v] w fun e w' => ∃ a cap, e = .returned (.slice a (Pd.cols p).length cap) ∧ Rd st w' a cap (Pd.cols p) ∧ Ex w w' := by
 obtain ⟨vk, vcol, vn, vm, vs, vset, vkids⟩ := v
 have HLw : Hid (Pd.Lay (fun b => b < w.heap.size) p w ⟨vk, vcol, vn, vm, vs, vset, vkids⟩) := (Pd.Lay.mono (fun b hb => hb.2) _ h.lt : Pd.Lay (fun b => b < w.heap.size) p w _)
 obtain ⟨W, hW⟩ : ∃ W, w.alloc (pb ⟨vk, vcol, vn, vm, vs, vset, vkids⟩) = W := ⟨_, rfl⟩
 have hXW : Ex w W := by rw [← hW]; exact (Below.refl _ _).alloc (Nat.le_refl _) _
 have HXW : Hid (Ex w W) := hXW
 have HP : Hid (PAt W w.heap.size ⟨vk, vcol, vn, vm, vs, vset, vkids⟩) := (by rw [← hW]; exact PAt.new w _ : PAt W w.heap.size _)
 have HC : Hid (Calls Tryz.prog 40 #[pvv ⟨vk, vcol, vn, vm, vs, vset, vkids⟩] W fun e w' => e = .returned (.bool true) ∧ Ex W w') := bounded_is p _ W (Pd.Lay.below _ h hXW) true hF
 have hsz : Pd.size p ≤ 5000 := by unfold Pd.fit at hF; simp at hF; exact hF.2
 obtain ⟨p0, p1, p2, p3, p4, p5, p6⟩ := HP.out.all
 obtain ⟨S, hS⟩ : ∃ S, Pd.clist p = S := ⟨_, rfl⟩
 have HS : Hid (Pd.clist p = S) := hS
 have hSl : S.length ≤ 5000 := by have := Pd.clist_len p; rw [hS] at this; omega
 have hcs : T.bld S = Pd.cols p := by rw [← hS]; exact Pd.bld_clist p
 obtain ⟨K, hK⟩ : ∃ K, Pd.cols p = K := ⟨_, rfl⟩
 rw [hK] at hcs
 rw [hK]
 have HK : Hid (Lib.compact (S.mergeSort fun x y => decide (x ≤ y)) = K) := (by rw [T.cmp_bld, hcs] : Lib.compact (S.mergeSort fun x y => decide (x ≤ y)) = K)
 have HKL : Hid (K.length ≤ S.length) := (by rw [← hcs]; exact T.bld_len S : K.length ≤ S.length)
 clear h hXW hF hS hcs hK
 unfold pvv
 simp only [sv]
 go_enter Tryz.func17, Tryz.ntmps17
 go_wp2_with fail
 go_at_call 40
 refine Calls.mono HC.out ?_
 rintro e w1 ⟨rfl, hx1⟩
 have HX1 : Hid (Ex w w1) := (HXW.out.trans hx1 : Ex w w1)
 have HC2 : Hid (Calls Tryz.prog 43 #[.slice none 0 0, pvv ⟨vk, vcol, vn, vm, vs, vset, vkids⟩] w1 fun e w' => ∃ u', e = .returned u' ∧ OwnR 9 st w' w.heap.size u' ([] ++ Pd.clist p) ∧ Below w.heap.size w1 w') := addCols_is p _ w.heap.size _ [] w1 (Pd.Lay.under (fun b hb => hb) _ HLw.out HX1.out) (World.ownsRow_nil _ _ _ _) HX1.out.size (by simp; omega)
 have HP1 : Hid (PAt w1 w.heap.size ⟨vk, vcol, vn, vm, vs, vset, vkids⟩) := (HP.out.below hx1 : PAt w1 w.heap.size _)
 obtain ⟨q0, q1, q2, q3, q4, q5, q6⟩ := HP1.out.all
 clear hx1 HC p0 p1 p2 p3 p4 p5 p6
 go_wp2_with fail
 go_at_call 43
 refine Calls.mono HC2.out ?_
 rintro e w2 ⟨u2, rfl, ho2, hx2⟩
 rw [List.nil_append, HS.out] at ho2
 have HX2 : Hid (Ex w w2) := (Below.trans HX1.out hx2 : Ex w w2)
 clear hx2 HC2 q0 q1 q2 q3 q4 q5 q6
 by_cases h0 : S = []
 ·subst h0
  obtain ⟨a2, c2, rfl, hr2⟩ := ho2.rd
  have hK0 : K = [] := List.eq_nil_of_length_eq_zero (by have := HKL.out; simp at this; rw [this]; rfl)
  subst hK0
  have HR2 : Hid (Rd st w2 a2 c2 []) := hr2
  clear ho2 hr2 HK
  go_wp2_with fail
  go_at_call 44
  refine (Tryz.slices_Sort_string_none a2 c2 w2).mono ?_
  rintro e w3 ⟨rfl, hw⟩
  have hw' := hw.symm; clear hw; subst hw'
  go_wp2_with fail
  go_at_call 45
  refine (Tryz.slices_Compact_string_empty a2 c2 w2).mono ?_
  rintro e w3 ⟨rfl, hw⟩
  have hw' := hw.symm; clear hw; subst hw'
  go_wp2_with fail
  go_ret
  exact ⟨a2, c2, rfl, HR2.out, HX2.out⟩
 ·have hpos : 0 < S.length := List.length_pos_iff.2 h0
  have hne : u2 ≠ .slice none 0 0 := by
   intro e
   rw [e] at ho2
   obtain ⟨g, cap, hv, _⟩ := ho2.form hpos
   cases hv
  obtain ⟨g, cap', rfl, hbg, hgl, hncap, hcm, hlen, hH⟩ := Lib.holds_of_ownsRow (enc := encStr) (show w2.ownsRow w.heap.size 9 1 u2 S.length (S.map encStr) from ho2) hne
  have X : Hid (w2.ownsRow w.heap.size 9 1 (.slice (some ⟨g, 0, none⟩) S.length cap') S.length (S.map encStr) ∧ Below w.heap.size w w2 ∧ Sort.Holds encStr w2 g 0 S.toArray) := (⟨ho2, HX2.out, hH⟩ : _ ∧ _ ∧ _)
  have HCM : Hid (cap' ≤ maxLen) := hcm
  clear ho2 hne hH hlen h0 hcm
  go_wp2_with fail
  go_at_call 44
  refine (Tryz.slices_Sort_string g 0 cap' S w2 X.out.2.2 hgl (by omega)).mono ?_
  rintro e w3 ⟨rfl, nn, os, hw3⟩
  have hl2 : (S.mergeSort fun x y => decide (x ≤ y)).length = S.length := List.length_mergeSort S
  have hH2 : Sort.Holds encStr w3 g 0 (S.mergeSort fun x y => decide (x ≤ y)).toArray := by
   rw [hw3]
   exact Sort.holds_grow encStr _ os g 0 _ (by simpa [Sort.putRow, Sort.mapBlock, Sort.ahead] using hgl) (Sort.holds_putRow encStr _ g 0 _ _ (Sort.holds_ahead encStr w2 nn g 0 _ X.out.2.2) (by simp))
  have hcomp := Tryz.slices_Compact_string g 0 cap' (S.mergeSort fun x y => decide (x ≤ y)) w3 hH2 (by omega) (by omega)
  rw [hl2, HK.out] at hcomp
  have HC4 : Hid _ := hcomp
  have HW3 : Hid _ := hw3
  have HH2 : Hid (Sort.Holds encStr w3 g 0 (S.mergeSort fun x y => decide (x ≤ y)).toArray) := hH2
  have HL2 : Hid ((S.mergeSort fun x y => decide (x ≤ y)).length = S.length) := hl2
  clear hcomp hw3 hH2 hl2
  go_wp2_with fail
  go_at_call 45
  refine Calls.mono HC4.out ?_
  rintro e w4 ⟨rfl, q, hw4⟩
  have HX4 : Hid (Ex w w4) := (by rw [hw4, HW3.out]; exact cols_left X.out.1 X.out.2.1 hbg : Ex w w4)
  have HR4 : Hid (Rd st w4 (some ⟨g, 0, none⟩) cap' K) := (by
   rw [hw4]
   refine rd_of_holds (n := 0) (Sort.holds_putRow encStr _ g 0 _ _ (Sort.holds_ahead encStr w3 q g 0 _ HH2.out) ?_) (by have := HKL.out; omega) HCM.out
   have h1 := HL2.out
   have h2 := HKL.out
   simp only [List.size_toArray, List.length_append, List.length_replicate]
   omega : Rd st w4 (some ⟨g, 0, none⟩) cap' K)
  clear hw4 HC4
  go_wp2_with fail
  go_ret
  exact ⟨_, _, rfl, HR4.out, HX4.out⟩
end Go.Proofs.YtbdjccmlgdfapaaGreat
