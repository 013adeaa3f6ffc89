/-
  The document's own reader in a block: refuse, num, text. A region whose order is open up to its tail, with two operations in its head that turn the world, the second behind the first, whatever the first answers.
-/
import Derived.Test.YtbdjccmlgdfapaaGreatLread
import Derived.Test.YtbdjccmlgdfapaaGreatRvarint
namespace Go.Proofs.YtbdjccmlgdfapaaGreat
open Go.RowKit
set_option linter.unusedVariables false
set_option linter.unusedSimpArgs false
abbrev qdb (a : Option Addr) (n cap : Nat) (s : RS) : Obj := .cells #[.slice a n cap, .int .i64 s.at', .int .i64 (s.c : Int), .int .i64 (s.y : Int)] 78
/-- A reader in a block. -/
def QAt (w : World) (g : Nat) (a : Option Addr) (n cap : Nat) (s : RS) : Prop := w.heap[g]? = some (qdb a n cap s)
theorem QAt.lt {w : World} {g : Nat} {a : Option Addr} {n cap : Nat} {s : RS} (h : QAt w g a n cap s) : g < w.heap.size := (Array.getElem?_eq_some_iff.1 h).1
theorem QAt.all {w : World} {g : Nat} {a : Option Addr} {n cap : Nat} {s : RS} (h : QAt w g a n cap s) : w.cell? ⟨g, 0, none⟩ = some (.slice a n cap) ∧ w.cell? ⟨g, 1, none⟩ = some (.int .i64 s.at') ∧ w.cell? ⟨g, 2, none⟩ = some (.int .i64 (s.c : Int)) ∧ w.cell? ⟨g, 3, none⟩ = some (.int .i64 (s.y : Int)) := by
 refine ⟨?_, ?_, ?_, ?_⟩ <;> (rw [cell_of_row w g _ _ 78 (0, 0) h]; rfl)
theorem QAt.fro {w : World} {g : Nat} {a : Option Addr} {n cap : Nat} {s : RS} (h : QAt w g a n cap s) : w.frozen? ⟨g, 1, none⟩ = false ∧ w.frozen? ⟨g, 2, none⟩ = false ∧ w.frozen? ⟨g, 3, none⟩ = false := ⟨frozen_of_row _ _ _ _ _ h, frozen_of_row _ _ _ _ _ h, frozen_of_row _ _ _ _ _ h⟩
theorem QAt.set1 {w : World} {g : Nat} {a : Option Addr} {n cap : Nat} {s : RS} (h : QAt w g a n cap s) (x : Int) : QAt (w.setCell ⟨g, 1, none⟩ (.int .i64 x)) g a n cap ⟨x, s.c, s.y⟩ := by
 unfold QAt; rw [heap_setCell_same w g 1 _ 78 _ h]; rfl
theorem QAt.set2 {w : World} {g : Nat} {a : Option Addr} {n cap : Nat} {s : RS} (h : QAt w g a n cap s) (x : Nat) : QAt (w.setCell ⟨g, 2, none⟩ (.int .i64 (x : Int))) g a n cap ⟨s.at', x, s.y⟩ := by
 unfold QAt; rw [heap_setCell_same w g 2 _ 78 _ h]; rfl
theorem QAt.set3 {w : World} {g : Nat} {a : Option Addr} {n cap : Nat} {s : RS} (h : QAt w g a n cap s) (x : Nat) : QAt (w.setCell ⟨g, 3, none⟩ (.int .i64 (x : Int))) g a n cap ⟨s.at', s.c, x⟩ := by
 unfold QAt; rw [heap_setCell_same w g 3 _ 78 _ h]; rfl
theorem QAt.below {w w' : World} {g : Nat} {a : Option Addr} {n cap : Nat} {s : RS} (h : QAt w g a n cap s) (hx : Ex w w') : QAt w' g a n cap s := by
 unfold QAt; rw [hx.block g h.lt]; exact h
theorem QAt.far {w w' : World} {g : Nat} {a : Option Addr} {n cap : Nat} {s : RS} {row : Option Nat} (h : QAt w g a n cap s) (hg : w.grownBy w' row) (hne : row ≠ some g) : QAt w' g a n cap s := by
 unfold QAt; rw [hg.block g h.lt (fun e => hne e.symm)]; exact h
/-- A reader of these bytes, which lie elsewhere. -/
def Qdr (w : World) (g : Nat) (a : Option Addr) (cap : Nat) (b : List UInt8) (s : RS) : Prop := QAt w g a b.length cap s ∧ Byt w a cap b ∧ (0 < b.length → ∀ q off, a = some ⟨q, off, none⟩ → q ≠ g)
theorem Qdr.below {w w' : World} {g : Nat} {a : Option Addr} {cap : Nat} {b : List UInt8} {s : RS} (h : Qdr w g a cap b s) (hx : Ex w w') : Qdr w' g a cap b s := ⟨h.1.below hx, h.2.1.below hx, h.2.2⟩
theorem Qdr.far {w w' : World} {g : Nat} {a : Option Addr} {cap : Nat} {b : List UInt8} {s : RS} {row : Option Nat} (h : Qdr w g a cap b s) (hg : w.grownBy w' row) (hne : row ≠ some g) (ha : 0 < b.length → ∀ q off, a = some ⟨q, off, none⟩ → row ≠ some q) : Qdr w' g a cap b s := ⟨h.1.far hg hne, byt_far h.2.1 hg ha, h.2.2⟩
/-- Written to. -/
theorem Qdr.to {w w' : World} {g : Nat} {a : Option Addr} {cap : Nat} {b : List UInt8} {s s' : RS} (h : Qdr w g a cap b s) (hR : QAt w' g a b.length cap s') (hg : w.grownBy w' (some g)) : Qdr w' g a cap b s' := ⟨hR, byt_far h.2.1 hg (fun h0 q off e => fun e2 => h.2.2 h0 q off e (by simpa using e2.symm)), h.2.2⟩
theorem Qdr.lt {w : World} {g : Nat} {a : Option Addr} {cap : Nat} {b : List UInt8} {s : RS} (h : Qdr w g a cap b s) : 0 < b.length → ∀ q off, a = some ⟨q, off, none⟩ → q < w.heap.size := by
 intro h0 q off e
 obtain ⟨q', off', e', hc⟩ := h.2.1.2.2.2 0 h0
 rw [e] at e'
 cases e'
 exact World.block_lt_of_cell? w _ hc
/-- A reader in a world in which a block has grown that is new. -/
theorem Qdr.new {w w1 w' : World} {g : Nat} {a : Option Addr} {cap : Nat} {b : List UInt8} {s0 s : RS} {row : Option Nat} (h0 : Qdr w g a cap b s0) (h : Qdr w1 g a cap b s) (hg : w1.grownBy w' row) (hr : ∀ j, row = some j → w.heap.size ≤ j) : Qdr w' g a cap b s :=
 h.far hg (fun e => by have := hr g e; have h2 := h0.1.lt; omega) (fun hp q off e e2 => by have h1 := hr q e2; have h2 := h0.lt hp q off e; omega)
namespace Pd
def mnum (b : List UInt8) (s : RS) : Nat × RS := if s.y = 0 then (if (M.get b s.at').2.2 = 0 then ((M.get b s.at').1, ⟨(M.get b s.at').2.1, s.c, 0⟩) else (0, ⟨s.at', s.c, (M.get b s.at').2.2⟩)) else (0, s)
def mtxt (b : List UInt8) (m : Int) (s : RS) : List UInt8 × RS := if s.y = 0 then (if (M.getText b s.at' m).2.2 = 0 then ((M.getText b s.at' m).1, ⟨(M.getText b s.at' m).2.1, s.c, 0⟩) else ([], ⟨s.at', s.c, (M.getText b s.at' m).2.2⟩)) else ([], s)
theorem mnum_y {b : List UInt8} {s : RS} (h : s.y ≠ 0) : mnum b s = (0, s) := if_neg h
theorem mtxt_y {b : List UInt8} {m : Int} {s : RS} (h : s.y ≠ 0) : mtxt b m s = ([], s) := if_neg h
theorem mnum_0 (b : List UInt8) (k : Int) (c : Nat) : mnum b ⟨k, c, 0⟩ = if (M.get b k).2.2 = 0 then ((M.get b k).1, ⟨(M.get b k).2.1, c, 0⟩) else (0, ⟨k, c, (M.get b k).2.2⟩) := if_pos rfl
theorem mtxt_0 (b : List UInt8) (m k : Int) (c : Nat) : mtxt b m ⟨k, c, 0⟩ = if (M.getText b k m).2.2 = 0 then ((M.getText b k m).1, ⟨(M.getText b k m).2.1, c, 0⟩) else ([], ⟨k, c, (M.getText b k m).2.2⟩) := if_pos rfl
theorem mnum_lt (b : List UInt8) (s : RS) : (mnum b s).1 < 18446744073709551616 := by
 have h := lnum_lt b s
 unfold mnum
 unfold lnum at h
 split
 ·rename_i h1
  rw [if_pos h1] at h
  split
  ·exact h
  ·simp
 ·simp
end Pd
set_option maxHeartbeats 1000000 in
theorem rrefuse_is (g : Nat) (a : Option Addr) (cap : Nat) (b : List UInt8) (s : RS) (E : Int) (e : Nat) (w : World) (h : Qdr w g a cap b s) (hE : E = e) :
  Calls Tryz.prog 80 #[.pointer (some ⟨g, 0, none⟩), .int .i64 E] w fun x w' => x = .returned (.tuple #[]) ∧ Qdr w' g a cap b (Pd.refu e s) ∧ w.grownBy w' (some g) := by
 subst hE
 obtain ⟨at', c, y⟩ := s
 have H : Hid (Qdr w g a cap b ⟨at', c, y⟩) := h
 obtain ⟨i0, i1, i2, i3⟩ := h.1.all
 obtain ⟨j1, j2, j3⟩ := h.1.fro
 simp only at i1 i2 i3
 clear h
 go_enter Tryz.func80, Tryz.ntmps80
 by_cases hy : y = 0
 ·subst hy
  have HR : Hid (Pd.refu e ⟨at', c, 0⟩ = ⟨at', c, e⟩) := (rfl : Pd.refu e ⟨at', c, 0⟩ = ⟨at', c, e⟩)
  go_wp2_with fail
  refine bodyPost_end (results_none Tryz.results80 _ _ _) rfl ?_
  refine ⟨rfl, ?_, grown_set1 _ _ _ _⟩
  rw [HR.out]
  exact H.out.to (H.out.1.set3 e) (grown_set1 _ _ _ _)
 ·have t1 : ((y : Int) == 0) = false := beq_eq_false_iff_ne.2 (by omega)
  have HR : Hid (Pd.refu e ⟨at', c, y⟩ = ⟨at', c, y⟩) := Pd.refu_y hy
  go_wp2_with fail
  refine bodyPost_end (results_none Tryz.results80 _ _ _) rfl ?_
  exact ⟨rfl, by rw [HR.out]; exact H.out, World.grownBy.refl _ _⟩
set_option maxHeartbeats 4000000 in
set_option maxRecDepth 100000 in
theorem rnum_is (g : Nat) (a : Option Addr) (cap : Nat) (b : List UInt8) (s : RS) (w : World) (h : Qdr w g a cap b s) :
  Calls Tryz.prog 81 #[.pointer (some ⟨g, 0, none⟩)] w fun x w' => x = .returned (.int .u64 ((Pd.mnum b s).1 : Int)) ∧ Qdr w' g a cap b (Pd.mnum b s).2 ∧ w.grownBy w' (some g) := by
 obtain ⟨at', c, y⟩ := s
 have H : Hid (Qdr w g a cap b ⟨at', c, y⟩) := h
 obtain ⟨i0, i1, i2, i3⟩ := h.1.all
 simp only at i1 i2 i3
 by_cases hy : y = 0
 ·subst hy
  obtain ⟨⟨V, k, e⟩, hG⟩ : ∃ x, M.get b at' = x := ⟨_, rfl⟩
  have HG : Hid (M.get b at' = (V, k, e)) := hG
  have HP : Hid (Pd.mnum b ⟨at', c, 0⟩ = if e = 0 then (V, ⟨(k : Int), c, 0⟩) else (0, ⟨at', c, e⟩)) := (by rw [Pd.mnum_0, hG] : Pd.mnum b ⟨at', c, 0⟩ = _)
  rw [HP.out]
  clear h hG
  go_enter Tryz.func81, Tryz.ntmps81
  go_wp2_with fail
  have hre : ∀ u : World, u = u := fun _ => rfl
  have HD : Hid (Qdr w.drew g a cap b ⟨at', c, 0⟩) := H.out.below (Ex.drew w)
  obtain ⟨j0, j1, j2, j3⟩ := HD.out.1.all
  obtain ⟨f1, f2, f3⟩ := HD.out.1.fro
  simp only at j1 j2 j3
  refine Rg.wp_rows [.inl (Value.pointer (some ⟨g, 0, none⟩)), .inl (Value.pointer (some ⟨g, 0, none⟩)), .inl (Value.pointer (some ⟨g, 0, none⟩)), .inl (Value.slice a b.length cap), .inl (Value.pointer (some ⟨g, 0, none⟩)), .inl (Value.pointer (some ⟨g, 0, none⟩)), .inl (Value.pointer (some ⟨g, 1, none⟩)), .inl (Value.int .i64 at'), .inl (Value.tuple #[Value.int .u64 (V : Int), .int .i64 (k : Int), .int .i64 (e : Int)]), .inl (Value.tuple #[Value.int .u64 (V : Int), .int .i64 (k : Int), .int .i64 (e : Int)]), .inl (Value.int .u64 (V : Int)), .inl (Value.int .i64 (k : Int)), .inl (Value.int .i64 (e : Int)), .inl (Value.int .u64 (V : Int)), .inl (Value.int .i64 (k : Int)), .inl (Value.int .i64 (e : Int))] (fun wx => wx = w.drew) (fun x y => x = y) 35 (by kernel_rfl) rfl (by kernel_rfl) ?st hre rfl ?goods ?fin
  case st => exact trivial
  case goods =>
   refine Rg.goods_cons (Rg.good_move hre rfl rfl rfl) ?_
   refine Rg.goods_cons (Rg.good_nil hre rfl rfl rfl) ?_
   refine Rg.goods_cons (Rg.good_field hre rfl rfl rfl (fun wx hC => by go_simp)) ?_
   refine Rg.goods_cons (Rg.good_load hre rfl rfl rfl (fun wx hC => by subst hC; go_simp)) ?_
   refine Rg.goods_cons (Rg.good_move hre rfl rfl rfl) ?_
   refine Rg.goods_cons (Rg.good_nil hre rfl rfl rfl) ?_
   refine Rg.goods_cons (Rg.good_field hre rfl rfl rfl (fun wx hC => by go_simp)) ?_
   refine Rg.goods_cons (Rg.good_load hre rfl rfl rfl (fun wx hC => by subst hC; go_simp)) ?_
   refine Rg.goods_cons (Rg.good_call2 Tryz.func106 (by kernel_rfl) rfl rfl rfl (by rintro y0 y1 wx hC rfl rfl; exact (rget_is a _ cap b at' wx V k e HG.out (by rw [hC]; exact HD.out.2.1) rfl).mono fun x w' ⟨h1, h2⟩ => ⟨_, h1, rfl, h2.symm, by rw [h2]; exact hC⟩)) ?_
   refine Rg.goods_cons (Rg.good_move hre rfl rfl rfl) ?_
   refine Rg.goods_cons (Rg.good_extract hre rfl rfl rfl rfl) ?_
   refine Rg.goods_cons (Rg.good_extract hre rfl rfl rfl rfl) ?_
   refine Rg.goods_cons (Rg.good_extract hre rfl rfl rfl rfl) ?_
   refine Rg.goods_cons (Rg.good_assign hre rfl rfl rfl) ?_
   refine Rg.goods_cons (Rg.good_assign hre rfl rfl rfl) ?_
   refine Rg.goods_cons (Rg.good_assign hre rfl rfl rfl) ?_
   exact Rg.goods_nil
  case fin =>
   intro wx hx
   subst hx
   simp only [Rg.later, Act.put, List.setIfInBounds_toArray, List.set_cons_succ, List.set_cons_zero]
   by_cases he : e = 0
   ·have HI : Hid (e = 0) := he
    have t1 : ((e : Int) == 0) = true := beq_iff_eq.2 (by omega)
    have t2 : ((e : Int) != 0) = false := by simp [bne, t1]
    clear he i0 i1 i2 i3
    go_wp2_with fail
    go_ret
    first | rw [if_pos HI.out] | skip
    exact ⟨rfl, HD.out.to (HD.out.1.set1 (k : Int)) (grown_set1 _ _ _ _), grown_tr ((Ex.drew w).grownBy _) (grown_set1 _ _ _ _)⟩
   ·have HI : Hid (¬ e = 0) := he
    have t1 : ((e : Int) == 0) = false := beq_eq_false_iff_ne.2 (by omega)
    have t2 : ((e : Int) != 0) = true := by simp [bne, t1]
    clear he i0 i1 i2 i3
    go_wp2_with fail
    go_ret
    first | rw [if_neg HI.out] | skip
    exact ⟨rfl, HD.out.to (HD.out.1.set3 e) (grown_set1 _ _ _ _), grown_tr ((Ex.drew w).grownBy _) (grown_set1 _ _ _ _)⟩
 ·have t1 : ((y : Int) == 0) = false := beq_eq_false_iff_ne.2 (by omega)
  have t2 : ((y : Int) != 0) = true := by simp [bne, t1]
  have HP : Hid (Pd.mnum b ⟨at', c, y⟩ = (0, ⟨at', c, y⟩)) := Pd.mnum_y hy
  rw [HP.out]
  clear h
  go_enter Tryz.func81, Tryz.ntmps81
  go_wp2_with fail
  go_ret
  exact ⟨rfl, H.out, World.grownBy.refl _ _⟩
set_option maxHeartbeats 4000000 in
set_option maxRecDepth 100000 in
theorem rtxt_is (g : Nat) (a : Option Addr) (cap : Nat) (b : List UInt8) (s : RS) (m : Int) (w : World) (h : Qdr w g a cap b s) (hm : -9223372036854775808 ≤ m ∧ m ≤ 9223372036854775807) :
  Calls Tryz.prog 83 #[.pointer (some ⟨g, 0, none⟩), .int .i64 m] w fun x w' => x = .returned (.string (str (Pd.mtxt b m s).1)) ∧ Qdr w' g a cap b (Pd.mtxt b m s).2 ∧ w.grownBy w' (some g) := by
 obtain ⟨at', c, y⟩ := s
 have H : Hid (Qdr w g a cap b ⟨at', c, y⟩) := h
 obtain ⟨i0, i1, i2, i3⟩ := h.1.all
 simp only at i1 i2 i3
 by_cases hy : y = 0
 ·subst hy
  obtain ⟨⟨V, k, e⟩, hG⟩ : ∃ x, M.getText b at' m = x := ⟨_, rfl⟩
  have HG : Hid (M.getText b at' m = (V, k, e)) := hG
  have HP : Hid (Pd.mtxt b m ⟨at', c, 0⟩ = if e = 0 then (V, ⟨(k : Int), c, 0⟩) else ([], ⟨at', c, e⟩)) := (by rw [Pd.mtxt_0, hG] : Pd.mtxt b m ⟨at', c, 0⟩ = _)
  rw [HP.out]
  clear h hG
  go_enter Tryz.func83, Tryz.ntmps83
  go_wp2_with fail
  have hre : ∀ u : World, u = u := fun _ => rfl
  have HD : Hid (Qdr w.drew g a cap b ⟨at', c, 0⟩) := H.out.below (Ex.drew w)
  obtain ⟨j0, j1, j2, j3⟩ := HD.out.1.all
  obtain ⟨f1, f2, f3⟩ := HD.out.1.fro
  simp only at j1 j2 j3
  refine Rg.wp_rows [.inl (Value.pointer (some ⟨g, 0, none⟩)), .inl (Value.pointer (some ⟨g, 0, none⟩)), .inl (Value.pointer (some ⟨g, 0, none⟩)), .inl (Value.slice a b.length cap), .inl (Value.pointer (some ⟨g, 0, none⟩)), .inl (Value.pointer (some ⟨g, 0, none⟩)), .inl (Value.pointer (some ⟨g, 1, none⟩)), .inl (Value.int .i64 at'), .inl (Value.int .i64 m), .inl (Value.tuple #[Value.string (str V), .int .i64 (k : Int), .int .i64 (e : Int)]), .inl (Value.tuple #[Value.string (str V), .int .i64 (k : Int), .int .i64 (e : Int)]), .inl (Value.string (str V)), .inl (Value.int .i64 (k : Int)), .inl (Value.int .i64 (e : Int)), .inl (Value.string (str V)), .inl (Value.int .i64 (k : Int)), .inl (Value.int .i64 (e : Int))] (fun wx => wx = w.drew) (fun x y => x = y) 38 (by kernel_rfl) rfl (by kernel_rfl) ?st hre rfl ?goods ?fin
  case st => exact trivial
  case goods =>
   refine Rg.goods_cons (Rg.good_move hre rfl rfl rfl) ?_
   refine Rg.goods_cons (Rg.good_nil hre rfl rfl rfl) ?_
   refine Rg.goods_cons (Rg.good_field hre rfl rfl rfl (fun wx hC => by go_simp)) ?_
   refine Rg.goods_cons (Rg.good_load hre rfl rfl rfl (fun wx hC => by subst hC; go_simp)) ?_
   refine Rg.goods_cons (Rg.good_move hre rfl rfl rfl) ?_
   refine Rg.goods_cons (Rg.good_nil hre rfl rfl rfl) ?_
   refine Rg.goods_cons (Rg.good_field hre rfl rfl rfl (fun wx hC => by go_simp)) ?_
   refine Rg.goods_cons (Rg.good_load hre rfl rfl rfl (fun wx hC => by subst hC; go_simp)) ?_
   refine Rg.goods_cons (Rg.good_move hre rfl rfl rfl) ?_
   refine Rg.goods_cons (Rg.good_call3 Tryz.func107 (by kernel_rfl) rfl rfl rfl (by rintro y0 y1 y2 wx hC rfl rfl rfl; exact (rgetText_any a _ cap b at' m wx (by rw [hC]; exact HD.out.2.1) rfl hm.1 hm.2 V k e HG.out).mono fun x w' ⟨h1, h2⟩ => ⟨_, h1, rfl, h2.symm, by rw [h2]; exact hC⟩)) ?_
   refine Rg.goods_cons (Rg.good_move hre rfl rfl rfl) ?_
   refine Rg.goods_cons (Rg.good_extract hre rfl rfl rfl rfl) ?_
   refine Rg.goods_cons (Rg.good_extract hre rfl rfl rfl rfl) ?_
   refine Rg.goods_cons (Rg.good_extract hre rfl rfl rfl rfl) ?_
   refine Rg.goods_cons (Rg.good_assign hre rfl rfl rfl) ?_
   refine Rg.goods_cons (Rg.good_assign hre rfl rfl rfl) ?_
   refine Rg.goods_cons (Rg.good_assign hre rfl rfl rfl) ?_
   exact Rg.goods_nil
  case fin =>
   intro wx hx
   subst hx
   simp only [Rg.later, Act.put, List.setIfInBounds_toArray, List.set_cons_succ, List.set_cons_zero]
   by_cases he : e = 0
   ·have HI : Hid (e = 0) := he
    have t1 : ((e : Int) == 0) = true := beq_iff_eq.2 (by omega)
    have t2 : ((e : Int) != 0) = false := by simp [bne, t1]
    clear he i0 i1 i2 i3
    go_wp2_with fail
    go_ret
    first | rw [if_pos HI.out] | skip
    exact ⟨rfl, HD.out.to (HD.out.1.set1 (k : Int)) (grown_set1 _ _ _ _), grown_tr ((Ex.drew w).grownBy _) (grown_set1 _ _ _ _)⟩
   ·have HI : Hid (¬ e = 0) := he
    have t1 : ((e : Int) == 0) = false := beq_eq_false_iff_ne.2 (by omega)
    have t2 : ((e : Int) != 0) = true := by simp [bne, t1]
    clear he i0 i1 i2 i3
    go_wp2_with fail
    go_ret
    first | rw [if_neg HI.out] | skip
    exact ⟨rfl, HD.out.to (HD.out.1.set3 e) (grown_set1 _ _ _ _), grown_tr ((Ex.drew w).grownBy _) (grown_set1 _ _ _ _)⟩
 ·have t1 : ((y : Int) == 0) = false := beq_eq_false_iff_ne.2 (by omega)
  have t2 : ((y : Int) != 0) = true := by simp [bne, t1]
  have HP : Hid (Pd.mtxt b m ⟨at', c, y⟩ = ([], ⟨at', c, y⟩)) := Pd.mtxt_y hy
  rw [HP.out]
  clear h
  go_enter Tryz.func83, Tryz.ntmps83
  go_wp2_with fail
  go_ret
  exact ⟨rfl, H.out, World.grownBy.refl _ _⟩
end Go.Proofs.YtbdjccmlgdfapaaGreat
namespace Go.Proofs.YtbdjccmlgdfapaaGreat
open Go.RowKit
set_option linter.unusedVariables false
set_option linter.unusedSimpArgs false
namespace Rg.Fr
section
variable {P : Program} {ops : Array Oper} {specs : List Spec} {a0 : Act} {V : (Nat → Bool) → Act → World → Prop}
theorem rows_tail_more {Q : Exit → Act → World → Prop} {n : Nat} {t : List Oper} {hops : Array Oper} (hs : sound hops a0.tmps.size = true) (hsub : ∀ i, i < n → hops[i]? = ops[i]?) (hng : ∀ i o, i < n → ops[i]? = some o → o.guard = none)
  (hst : ∀ (j : Nat) (v : Value) (w w' : World), ((specs[j]?).getD (.inl undef)).ok v w → ((specs[j]?).getD (.inl undef)).ok v w')
  (hsink : Region.sinkB .any ops n = true) (hchain : Region.chainB .any ops n = true) (hn : n < ops.size)
  (ht : ∀ j, t[j]? = ops[n + j]?) (hseq : Region.seqB .any ops t.length n (headDone ops.size n) = true)
  (hG : ∀ (i : Nat) (o : Oper) (L : Nat → Bool) (a : Act) (w : World), i < n → ops[i]? = some o → L i = false → (∀ e ∈ o.after, Region.binds .any e = true → L e.on = true) → a.tmps.size = a0.tmps.size → (∀ t ∈ o.looksAt hops, (slotS hops specs a0 t).ok (a.eval (.tmp t)) w) → V L a w →
   o.wp P a w (fun a' w' => ∃ v, a' = a.put o.dst v ∧ ((specs[i]?).getD (.inl undef)).ok v w' ∧ V (upd i L) (a.put o.dst v) w') Q)
  (hF : ∀ (listed : Array Bool) (a : Act) (w : World), Inv hops specs a0 (fun _ => True) listed a w → V (lst listed) a w → (∀ j, j < n → listed.getD j false = true) → wpList P ops Q t a w) :
  ∀ (fuel : Nat) (listed : Array Bool) (a : Act) (w : World), Inv hops specs a0 (fun _ => True) listed a w → V (lst listed) a w → HeadInv .any ops n listed → cnt n (fun j => !listed.getD j true) = fuel → wpAny P .any ops Q (fuel + t.length) listed a w
 | 0, listed, a, w, h, hv, hh, hc => by
  rw [Nat.zero_add]
  have h1 : ∀ j, j < n → listed.getD j true = true := fun j hj => by
   have := cnt_zero _ _ hc j hj
   simpa using this
  have h1' : ∀ j, j < n → listed.getD j false = true := fun j hj => by
   have := h1 j hj
   have hj' : j < listed.size := by rw [hh.size]; omega
   simp [hj'] at this ⊢
   exact this
  have he := headDone_of hh.size h1 hh.tail
  exact wpAny_of_seq t n listed a w ht (by rw [he]; exact hseq) (hF listed a w h hv h1')
 | fuel + 1, listed, a, w, h, hv, hh, hc => by
  have hex : ∃ i, i < n ∧ listed.getD i true = false := by
   refine Classical.byContradiction fun hno => ?_
   have : cnt n (fun j => !listed.getD j true) = 0 := by
    rw [cnt_same n _ (fun _ => false) (fun j hj => ?_)]
    ·exact cnt_none n
    ·cases hl : listed.getD j true with
     | true => rfl
     | false => exact absurd ⟨j, hj, hl⟩ hno
   omega
  obtain ⟨i0, hi0, hun⟩ := hex
  rw [show fuel + 1 + t.length = (fuel + t.length) + 1 by omega]
  refine ⟨fun hr => ?_, fun i hi => ?_⟩
  ·have := head_listed hs hsub (Nat.le_of_lt hn) hr hh.size i0 hi0
   rw [getD_both hun] at this
   cases this
  ·have hin : i < n := by
    rcases Nat.lt_or_ge i n with h' | h'
    ·exact h'
    ·exact absurd hi (tail_waits hsink hchain hn hh _ i0 rfl hi0 hun i h')
   obtain ⟨h0, o, ho, hall⟩ := mem_ready.1 hi
   have hi2 : i < listed.size := by rw [hh.size]; omega
   have hho : hops[i]? = some o := by rw [hsub i hin]; exact ho
   have hnl : lst listed i = false := by unfold lst; simp [hi2] at h0 ⊢; exact h0
   have hw : Region.wanted o (yielded ops a.tmps) = true := by simp [Region.wanted, hng i o hin ho]
   unfold wpOp
   simp only [ho]
   rw [if_pos hw]
   refine .inl (Oper.wp_mono (fun a' w' hk => ?_) (hG i o (lst listed) a w hin ho hnl hall h.size (h.sees' hs hho hall) hv))
   obtain ⟨v, rfl, hok, hV⟩ := hk
   refine rows_tail_more hs hsub hng hst hsink hchain hn ht hseq hG hF fuel _ _ _ (h.step (E := fun _ _ => True) hs hho hi2 (fun j v w w' h1 _ => hst j v w w' h1) trivial trivial hok) (by rw [lst_set hi2]; exact hV) (hh.set hi hin) ?_
   have hstep := cnt_step n (fun j => !listed.getD j true) (fun j => !(listed.setIfInBounds i true).getD j true) i hin (by simp [h0]) (by simp [hi2]) (fun j hj => by rw [getD_set_ne true (Ne.symm hj)])
   omega
end
theorem eval_put_ne {a : Act} {d : Option Tmp} {t : Tmp} {v : Value} (h : d ≠ some t) : (a.put d v).eval (.tmp t) = a.eval (.tmp t) := by
 cases d with
 | none => rfl
 | some d =>
  have hd : d ≠ t := fun e => h (by rw [e])
  simp [Act.put, Act.eval, Array.getD_eq_getD_getElem?, hd]
theorem eval_put_self {a : Act} {t : Tmp} {v : Value} (h : t < a.tmps.size) : (a.put (some t) v).eval (.tmp t) = v := by
 simp [Act.put, Act.eval, Array.getD_eq_getD_getElem?, h]
theorem wp_tail_two {id : Nat} {Q : Exit → Act → World → Prop} {w : World} {a0 : Act} (l t : List Oper) {lt : List Oper} (hlt : lt = l ++ t) (specs : List Spec) (n : Nat) (hm : Tryz.prog.follows .mixedOrders = true)
  (hn : a0.tmps.size = n) (hs : sound l.toArray n = true) (hng : l.all (fun o => o.guard.isNone) = true) (hsink : Region.sinkB .any lt.toArray l.length = true) (hchain : Region.chainB .any lt.toArray l.length = true)
  (hpos : 0 < t.length) (hseq : Region.seqB .any lt.toArray t.length l.length (headDone lt.toArray.size l.length) = true) (hst : Stands (fun _ _ => True) specs)
  (x y tx ty : Nat) (hxy : x ≠ y) (ox oy : Oper) (lx : l[x]? = some ox) (ly : l[y]? = some oy) (dx : ox.dst = some tx) (dy : oy.dst = some ty) (hd : oy.after.any (fun e => Region.binds .any e && e.on == x) = true)
  (sx : specs[x]? = some (.inr fun _ _ => True)) (sy : specs[y]? = some (.inr fun _ _ => True))
  (R : List Nat) (Cl : World → Prop) (PX PY : Value → World → Prop) (h0 : Cl w.drew) (h1 : ∀ v w', PX v w' → Cl w') (h2 : ∀ v w', PY v w' → Cl w')
  (rx : ∀ a : Act, (∀ z ∈ ox.looksAt l.toArray, (slotS l.toArray specs a0 z).ok (a.eval (.tmp z)) w.drew) → ox.wp Tryz.prog a w.drew (fun a' w2 => ∃ v, a' = a.put ox.dst v ∧ PX v w2) Q)
  (ry : ∀ (a : Act) (w' : World), PX (a.eval (.tmp tx)) w' → oy.wp Tryz.prog a w' (fun a' w2 => ∃ v, a' = a.put oy.dst v ∧ PY v w2) Q)
  (hG : GoodsLate l.toArray specs a0 Cl x y R 0 l specs)
  (hF : ∀ w', later w' (fun a' => PY (a'.eval (.tmp ty)) w' → wpList Tryz.prog lt.toArray Q t a' w') l specs a0) : (Code.region id lt.toArray true).wp Tryz.prog Q a0 w := by
 subst hn
 have hsize : lt.toArray.size = l.length + t.length := by simp [hlt]
 have hat : ∀ i, i < l.length → lt.toArray[i]? = l[i]? := fun i hi => by simp [hlt, List.getElem?_append_left hi]
 have hgn : ∀ (i : Nat) (o : Oper), l[i]? = some o → o.guard = none := fun i o ho => by
  have := List.all_eq_true.1 hng o (List.mem_of_getElem? ho)
  simpa using this
 refine wp_region_any hm ?_
 have hcnt : cnt l.length (fun j => !(Array.replicate lt.toArray.size false).getD j true) = l.length := cnt_all _ _ (fun j hj => by
  have : j < lt.toArray.size := by omega
  simp at this
  simp [this])
 have hinv : HeadInv .any lt.toArray l.length (Array.replicate lt.toArray.size false) := by
  refine ⟨by simp, fun j oj _ hl => ?_, fun t' h1 h2 => ?_⟩
  ·rw [getD_replicate_false] at hl; cases hl
  ·simp at h2; simp [h2]
 have hwr : ∀ (i j : Nat) (o o' : Oper) (d : Tmp), l[i]? = some o → l[j]? = some o' → o.dst = some d → o'.dst = some d → i = j := fun i j o o' d hi hj e1 e2 => by
  have a1 := ((sound_at hs (i := i) (o := o) (by simpa using hi)).2.2 d e1).2
  have a2 := ((sound_at hs (i := j) (o := o') (by simpa using hj)).2.2 d e2).2
  rw [a1] at a2
  simpa using a2
 have htx : tx < a0.tmps.size := ((sound_at hs (i := x) (o := ox) (by simpa using lx)).2.2 tx dx).1
 have hty : ty < a0.tmps.size := ((sound_at hs (i := y) (o := oy) (by simpa using ly)).2.2 ty dy).1
 have := rows_tail_more (P := Tryz.prog) (ops := lt.toArray) (hops := l.toArray) (specs := specs) (a0 := a0) (Q := Q) (n := l.length) (t := t)
  (V := fun L a w' => (L y = true → L x = true) ∧ (L x = false → w' = w.drew) ∧ (L x = true → L y = false → PX (a.eval (.tmp tx)) w') ∧ (L y = true → PY (a.eval (.tmp ty)) w'))
  hs (fun i hi => by rw [hat i hi]; simp) (fun i o hi ho => hgn i o (by rw [hat i hi] at ho; exact ho)) (fun j v w w' h => stands_at specs hst j v w w' h trivial) hsink hchain (by omega)
  (fun j => by rw [hlt]; simp [List.getElem?_append_right]) hseq ?hgood ?hfin l.length (Array.replicate lt.toArray.size false) a0 w.drew ?hst0 ?hv0 hinv hcnt
 case hgood =>
  intro i o L a w' hi ho hL hdep hsz hlk hV
  rw [hat i hi] at ho
  obtain ⟨v1, v2, v3, v4⟩ := hV
  by_cases hix : i = x
  ·subst hix
   rw [lx] at ho
   cases ho
   have hw := v2 hL
   subst hw
   have hy0 : L y = false := by
    cases e : L y with
    | false => rfl
    | true => rw [v1 e] at hL; cases hL
   refine Oper.wp_mono (fun a' w3 hk => ?_) (rx a hlk)
   obtain ⟨v, e1, e2⟩ := hk
   refine ⟨v, e1, by rw [sx]; trivial, fun _ => upd_self' _ _, fun h => (by rw [upd_self'] at h; cases h), fun _ _ => ?_, fun h => ?_⟩
   ·rw [dx, eval_put_self (by rw [hsz]; exact htx)]
    exact e2
   ·rw [upd_ne' hxy, hy0] at h
    cases h
  ·by_cases hiy : i = y
   ·subst hiy
    rw [ly] at ho
    cases ho
    have hx1 := dep_of hd hdep
    refine Oper.wp_mono (fun a' w3 hk => ?_) (ry a w' (v3 hx1 hL))
    obtain ⟨v, e1, e2⟩ := hk
    refine ⟨v, e1, by rw [sy]; trivial, fun _ => by rw [upd_ne' (Ne.symm hxy)]; exact hx1, fun h => ?_, fun _ h => (by rw [upd_self'] at h; cases h), fun _ => ?_⟩
    ·rw [upd_ne' (Ne.symm hxy), hx1] at h
     cases h
    ·rw [dy, eval_put_self (by rw [hsz]; exact hty)]
     exact e2
   ·obtain ⟨s, hss, hg⟩ := late_at l specs 0 hG i o ho (by omega) (by omega)
    have hwant : Region.wanted o (yielded l.toArray a.tmps) = true := by unfold Region.wanted; rw [hgn i o ho]
    have hCl : Cl w' := by
     cases e : L x with
     | false => rw [v2 e]; exact h0
     | true =>
      cases e2 : L y with
      | false => exact h1 _ _ (v3 e e2)
      | true => exact h2 _ _ (v4 e2)
    refine Oper.wp_mono (fun a' w3 hk => ?_) ((hg Q a w' (fun _ => hCl) hlk).1 hwant)
    obtain ⟨v, e1, e2, e3, e4⟩ := hk
    refine ⟨v, e1, by rw [hss]; exact e2, ?_⟩
    rw [upd_ne' hix, upd_ne' hiy, e3, eval_put_ne (fun e => hix (hwr i x o ox tx ho lx e dx)), eval_put_ne (fun e => hiy (hwr i y o oy ty ho ly e dy))]
    exact ⟨v1, v2, v3, v4⟩
 case hfin =>
  intro listed a w' hI hV hall
  have hyl : lst listed y = true := hall y (List.getElem?_eq_some_iff.1 ly).1
  have hPY := hV.2.2.2 hyl
  have hwr' : ∀ o ∈ l, ∀ d, o.dst = some d → ∃ j, j < l.length ∧ writer l.toArray d = some j := fun o ho d hd => by
   obtain ⟨j, hj⟩ := List.getElem?_of_mem ho
   have hjl := (List.getElem?_eq_some_iff.1 hj).1
   exact ⟨j, hjl, ((sound_at hs (i := j) (o := o) (by simpa using hj)).2.2 d hd).2⟩
  have hfill : fill (fun t => a.tmps.getD t undef) l a0 = a := by
   have hz := fill_size (fun t => a.tmps.getD t undef) l a0
   refine act_ext (hz.2.trans hI.defers.symm) (hz.1.trans hI.size.symm) fun d hd => ?_
   rw [hz.1] at hd
   by_cases hw : ∃ o ∈ l, o.dst = some d
   ·rw [fill_same _ l a0 d hd hw]
    obtain ⟨o, ho, hod⟩ := hw
    obtain ⟨j, hj, hwj⟩ := hwr' o ho d hod
    obtain ⟨v, hv, _⟩ := hI.done d j hwj (hall j hj)
    simp [hv, Array.getD_eq_getD_getElem?]
   ·rw [fill_other _ l a0 d (fun o ho hod => hw ⟨o, ho, hod⟩)]
    refine (hI.slot d fun j hj => ?_).symm
    obtain ⟨o, ho, hod⟩ := writer_some hj
    exact absurd ⟨o, List.mem_of_getElem? (by simpa using ho), hod⟩ hw
  have h := later_fill (w := w') (K := fun a' => PY (a'.eval (.tmp ty)) w' → wpList Tryz.prog lt.toArray Q t a' w') (fun t => a.tmps.getD t undef) l specs a0 (hF w') (fun j o d s ho hd hss => by
   have hjl := (List.getElem?_eq_some_iff.1 ho).1
   have hw := ((sound_at hs (i := j) (o := o) (by simpa using ho)).2.2 d hd).2
   obtain ⟨v, hv, hk⟩ := hI.done d j hw (hall j hjl)
   rw [hss] at hk
   simpa [hv, Array.getD_eq_getD_getElem?] using hk)
  rw [hfill] at h
  exact h hPY
 case hst0 => exact ⟨trivial, rfl, rfl, fun t _ => rfl, fun t j _ hl => by rw [getD_replicate_false] at hl; cases hl⟩
 case hv0 =>
  have hz : ∀ j, lst (Array.replicate lt.toArray.size false) j = false := fun j => getD_replicate_false _ _
  exact ⟨fun h => (by rw [hz] at h; cases h), fun _ => rfl, fun h => (by rw [hz] at h; cases h), fun h => (by rw [hz] at h; cases h)⟩
 rw [hsize] at this ⊢
 exact this
end Rg.Fr
end Go.Proofs.YtbdjccmlgdfapaaGreat
