/-
  Taken out of another text of mine: Rcell. The landed chunk's fits, textsOf, numbersOf, plainOf. The landed chunk's textsOf, numbersOf, plainOf.
-/
import Derived.Test.YtnmonoafjijfhaaGreatM41
import Derived.Test.YtnmonoafjijfhaaGreatM42
namespace Go.Proofs.YtnmonoafjijfhaaGreat
open Go.RowKit
set_option linter.unusedVariables false
set_option linter.unusedSimpArgs false
/-- A cell in a block. -/
def EAt (w : World) (g : Nat) (c : Ce) : Prop := w.heap[g]? = some (.cells (cc c).toArray 28 (0, 0))
theorem EAt.lt {w : World} {g : Nat} {c : Ce} (h : EAt w g c) : g < w.heap.size := (Array.getElem?_eq_some_iff.1 h).1
theorem EAt.below {w w' : World} {g : Nat} {c : Ce} (h : EAt w g c) (hb : Below w.heap.size w w') : EAt w' g c := by
  unfold EAt; rw [hb.block g h.lt]; exact h
theorem EAt.alloc {w : World} {g : Nat} {c : Ce} (h : EAt w g c) (o : Obj) : EAt (w.alloc o) g c := h.below ((Below.refl _ _).alloc (Nat.le_refl _) _)
theorem EAt.new (w : World) (c : Ce) : EAt (w.alloc (cb c)) w.heap.size c := heap_alloc_new w _
theorem EAt.newat (w : World) (g : Nat) (c : Ce) (hg : g = w.heap.size) : EAt (w.alloc (cb c)) g c := by subst hg; exact EAt.new w c
theorem EAt.cell {w : World} {g : Nat} {c : Ce} (h : EAt w g c) (k : Nat) : w.cell? ⟨g, k, none⟩ = (cc c)[k]? := by
  rw [cell_of_row w g k _ 28 (0, 0) h, List.getElem?_toArray]
theorem EAt.all {w : World} {g : Nat} {c : Ce} (h : EAt w g c) : w.cell? ⟨g, 0, none⟩ = some (.string (str c.col)) ∧ w.cell? ⟨g, 1, none⟩ = some (.int .i64 c.k) ∧ w.cell? ⟨g, 2, none⟩ = some (.int .i64 c.n) ∧ w.cell? ⟨g, 3, none⟩ = some (.string (str c.s)) := ⟨h.cell 0, h.cell 1, h.cell 2, h.cell 3⟩
theorem EAt.frozen {w : World} {g : Nat} {c : Ce} (h : EAt w g c) (k : Nat) : w.frozen? ⟨g, k, none⟩ = false := frozen_of_row _ _ _ _ _ h
theorem EAt.fro {w : World} {g : Nat} {c : Ce} (h : EAt w g c) : w.frozen? ⟨g, 0, none⟩ = false ∧ w.frozen? ⟨g, 1, none⟩ = false ∧ w.frozen? ⟨g, 2, none⟩ = false ∧ w.frozen? ⟨g, 3, none⟩ = false := ⟨h.frozen 0, h.frozen 1, h.frozen 2, h.frozen 3⟩
theorem EAt.set {w : World} {g k : Nat} {c c' : Ce} {u : Value} (h : EAt w g c) (hz : (cc c).set k u = cc c') : EAt (w.setCell ⟨g, k, none⟩ u) g c' := by
  unfold EAt
  rw [heap_setCell_same w g k _ 28 _ h, List.setIfInBounds_toArray, hz]
theorem EAt.other {w : World} {g q k : Nat} {c : Ce} {u : Value} (h : EAt w g c) (hne : g ≠ q) : EAt (w.setCell ⟨q, k, none⟩ u) g c := by
  unfold EAt
  rw [heap_setCell_other w _ g u (by simpa using hne)]; exact h
/-- A cell of nothing in a block, as the walk spells it. -/
abbrev ecb0 : Obj := .cells #[.string { data := #[] }, .int .i64 0, .int .i64 0, .string { data := #[] }] 28
abbrev eset (w : World) (g : Nat) (c : Ce) : World := (((w.setCell ⟨g, 0, none⟩ (.string (str c.col))).setCell ⟨g, 1, none⟩ (.int .i64 c.k)).setCell ⟨g, 2, none⟩ (.int .i64 c.n)).setCell ⟨g, 3, none⟩ (.string (str c.s))
theorem EAt.store {w : World} {g : Nat} {c0 : Ce} (h : EAt w g c0) (c : Ce) : EAt (eset w g c) g c :=
  (((h.set (k := 0) (c' := { c0 with col := c.col }) rfl).set (k := 1) (c' := { c0 with col := c.col, k := c.k }) rfl).set (k := 2) (c' := { c0 with col := c.col, k := c.k, n := c.n }) rfl).set (k := 3) rfl
theorem Below.eset {B : Nat} {a w : World} (h : Below B a w) {g : Nat} (hg : B ≤ g) (c : Ce) : Below B a (eset w g c) :=
  Below.setCell (Below.setCell (Below.setCell (Below.setCell h (p := ⟨g, 0, none⟩) hg _) (p := ⟨g, 1, none⟩) hg _) (p := ⟨g, 2, none⟩) hg _) (p := ⟨g, 3, none⟩) hg _
set_option maxHeartbeats 1000000 in
theorem load_cell {w9 : World} {g : Nat} {c : Ce} (h : EAt w9 g c) : (loadVar 28 ⟨g, 0, none⟩).run Tryz.prog w9 = .ok (cv c) w9 := by
  obtain ⟨c0, c1, c2, c3⟩ := h.all
  clear h
  simp [go_sem, cv, c0, c1, c2, c3]
theorem res_cell {fn : Func} {tmps : Array Value} {w9 : World} {g i : Nat} {c : Ce} (hfn : fn.results = #[ResultVar.cell i 28]) (ht : tmps.getD i undef = .pointer (some ⟨g, 0, none⟩)) (h : EAt w9 g c) : (results fn tmps).run Tryz.prog w9 = .ok (cv c) w9 := by
  have hl := load_cell h
  have ht' : tmps[i]?.getD undef = .pointer (some ⟨g, 0, none⟩) := by simpa using ht
  simp [results, hfn, ht', asAddr, Sem.run_bind, Result.andThen, hl]
theorem Rw.cell_skip {l m : List Ce} {s : List UInt8} {d : Ce} (h : ∀ e ∈ l, e.col ≠ s) (hd : d.col = s) : Rw.cell (l ++ d :: m) s = d := by
  induction l with
  | nil => simp [Rw.cell, hd]
  | cons x l ih =>
    rw [List.cons_append, Rw.cell, if_neg (h x (by simp))]
    exact ih fun e he => h e (by simp [he])
end Go.Proofs.YtnmonoafjijfhaaGreat
namespace Go.Proofs.YtnmonoafjijfhaaGreat
open Go.RowKit
set_option linter.unusedVariables false
set_option linter.unusedSimpArgs false
theorem all_take {α : Type} {p : α → Bool} {l : List α} {k : Nat} (h : k < l.length) : (l.take (k + 1)).all p = ((l.take k).all p && p l[k]) := by
  rw [take_snoc h, List.all_append]; simp
theorem all_no {α : Type} {p : α → Bool} {l : List α} {k : Nat} (h : k < l.length) (hp : p l[k] = false) : l.all p = false := by
  rw [List.all_eq_false]
  exact ⟨l[k], List.getElem_mem h, by simp [hp]⟩
set_option maxHeartbeats 4000000 in
set_option maxRecDepth 100000 in
theorem fits_is (kind : Int) (a : Option Addr) (n cap : Nat) (l : List Ce) (w : World) (hn : n = l.length) (hB : RdC w a cap l) :
    Calls Tryz.prog 29 #[.int .i64 kind, .slice a n cap] w fun e w' => e = .returned (.bool (l.all (Ck.fits kind))) ∧ Ex w w' := by
  have HN : Hid (n = l.length) := hn
  have HB : Hid (RdC w a cap l) := hB
  have hcl : n ≤ cap := by have := hB.1; omega
  have hcm := hB.2.1
  unfold maxLen at hcm
  obtain ⟨R, hR⟩ : ∃ R, l.all (Ck.fits kind) = R := ⟨_, rfl⟩
  have HR : Hid (l.all (Ck.fits kind) = R) := hR
  rw [hR]
  clear hB hn hR
  go_enter Tryz.func29, Tryz.ntmps29
  go_wp2_with fail
  go_loopw [6, 9] (fun cv iv wr => ∃ (i : Nat), i ≤ n ∧ iv = .int .i64 (i : Int) ∧ Hid ((l.take i).all (Ck.fits kind) = true) ∧ Hid (Ex w wr)) (fun cv iv wr => n - (intOf iv).toNat)
  case atStart => exact ⟨0, by omega, rfl, (rfl : (l.take 0).all (Ck.fits kind) = true), Ex.refl _⟩
  case round =>
    obtain ⟨i, hi, rfl, HA, HX⟩ := hrel
    by_cases hlt : i < n
    · have ti : (i : Int) < (n : Int) := by omega
      have hlt2 : i < l.length := by rw [← HN.out]; exact hlt
      obtain ⟨bq, off, rfl, e0, e1, e2, e3⟩ := RdC.four (HB.out.below HX.out) hlt2
      obtain ⟨d, hd⟩ : ∃ d, l[i] = d := ⟨_, rfl⟩
      rw [hd] at e0 e1 e2 e3
      have hat := all_take (p := Ck.fits kind) hlt2
      rw [hd, HA.out, Bool.true_and] at hat
      have hno : Ck.fits kind d = false → R = false := fun h => by rw [← HR.out]; exact all_no hlt2 (by rw [hd]; exact h)
      have HNo : Hid (Ck.fits kind d = false → R = false) := hno
      have HAt : Hid ((l.take (i + 1)).all (Ck.fits kind) = Ck.fits kind d) := hat
      obtain ⟨w1, hw1⟩ : ∃ w1, wr.alloc (cb d) = w1 := ⟨_, rfl⟩
      have HX1 : Hid (Ex w w1) := (by rw [← hw1]; exact HX.out.trans ((Below.refl _ _).alloc (Nat.le_refl _) _) : Ex w w1)
      have hE1 : EAt w1 wr.heap.size d := by rw [← hw1]; exact EAt.new wr d
      obtain ⟨g0, g1, g2, g3⟩ := hE1.all
      have zs : (str d.s).size = d.s.length := str_size _
      obtain ⟨b1, hb1⟩ : ∃ b1, (d.k != 0) = b1 := ⟨_, rfl⟩
      obtain ⟨b2, hb2⟩ : ∃ b2, (d.k != kind) = b2 := ⟨_, rfl⟩
      obtain ⟨b3, hb3⟩ : ∃ b3, (d.k == 2) = b3 := ⟨_, rfl⟩
      obtain ⟨b4, hb4⟩ : ∃ b4, decide ((40 : Int) < (d.s.length : Int)) = b4 := ⟨_, rfl⟩
      have hfit : Ck.fits kind d = !(b1 && b2 || b3 && b4) := by
        rw [← hb1, ← hb2, ← hb3, ← hb4]
        unfold Ck.fits
        congr 2
        · by_cases h0 : d.k = 0 <;> by_cases h1 : d.k = kind <;> simp [h0, h1]
        · have e4 : decide ((40 : Int) < (d.s.length : Int)) = decide (40 < d.s.length) := decide_eq_decide.2 (by omega)
          rw [e4]
          by_cases h0 : d.k = 2 <;> simp [h0]
      have HF : Hid (Ck.fits kind d = !(b1 && b2 || b3 && b4)) := hfit
      clear hd hat hno hE1 hfit
      cases b1 <;> cases b2 <;> cases b3 <;> cases b4
      all_goals (go_wp2_with fail)
      all_goals first
        | (go_ret; refine ⟨?_, HX1.out⟩; rw [HNo.out (HF.out.trans rfl)]; rfl)
        | (go_roundw
           case rel => exact ⟨i + 1, by omega, by go_num, (HAt.out.trans (HF.out.trans rfl) : (l.take (i + 1)).all (Ck.fits kind) = true), HX1⟩
           case measure => simp [intOf]; omega)
    · have ti : ¬ (i : Int) < (n : Int) := by omega
      have hRt : R = true := by
        have h := HA.out
        rw [List.take_of_length_le (by rw [← HN.out]; omega), HR.out] at h
        exact h
      subst hRt
      go_wp2_with fail
      go_ret
      exact ⟨rfl, HX.out⟩
end Go.Proofs.YtnmonoafjijfhaaGreat
namespace Go.Proofs.YtnmonoafjijfhaaGreat
open Go.RowKit
set_option linter.unusedVariables false
set_option linter.unusedSimpArgs false
namespace Ck
def t2 (l : List Ce) : List (List UInt8) := (l.filter fun c => decide (c.k = 2)).map Ce.s
def n1 (l : List Ce) : List Int := (l.filter fun c => decide (c.k = 1)).map Ce.n
theorem t2_snoc (l : List Ce) (c : Ce) : t2 (l ++ [c]) = if c.k = 2 then t2 l ++ [c.s] else t2 l := by
  unfold t2
  by_cases h : c.k = 2 <;> simp [h]
theorem n1_snoc (l : List Ce) (c : Ce) : n1 (l ++ [c]) = if c.k = 1 then n1 l ++ [c.n] else n1 l := by
  unfold n1
  by_cases h : c.k = 1 <;> simp [h]
theorem t2_len (l : List Ce) : (t2 l).length ≤ l.length := by unfold t2; rw [List.length_map]; exact List.length_filter_le _ _
theorem n1_len (l : List Ce) : (n1 l).length ≤ l.length := by unfold n1; rw [List.length_map]; exact List.length_filter_le _ _
theorem bI_len : ∀ ns : List Int, (bI ns).length ≤ 10 * ns.length
  | [] => by simp [bI]
  | n :: ns => by
    have h1 := (M.digs_len (M.zig n).toNat).2
    have h2 := bI_len ns
    have e : bI (n :: ns) = M.digs (M.zig n).toNat ++ bI ns := rfl
    rw [e, List.length_append, List.length_cons]
    omega
theorem bI_snoc (ns : List Int) (n : Int) : bI (ns ++ [n]) = bI ns ++ M.digs (M.zig n).toNat := by simp [bI]
theorem t2_txts {l : List Ce} (h : l.all (fits 2) = true) : t2 l = txts l := by
  unfold t2 txts vals
  congr 1
  refine List.filter_congr fun c hc => ?_
  have := ((fits_iff 2 c).1 (List.all_eq_true.1 h c hc)).1
  by_cases h0 : c.k = 0
  · simp [h0]
  · have h2 : c.k = 2 := by rcases this with h | h <;> omega
    simp [h2]
theorem n1_nums {l : List Ce} (h : l.all (fits 1) = true) : n1 l = nums l := by
  unfold n1 nums vals
  congr 1
  refine List.filter_congr fun c hc => ?_
  have := ((fits_iff 1 c).1 (List.all_eq_true.1 h c hc)).1
  by_cases h0 : c.k = 0
  · simp [h0]
  · have h2 : c.k = 1 := by rcases this with h | h <;> omega
    simp [h2]
end Ck
set_option maxHeartbeats 4000000 in
set_option maxRecDepth 100000 in
theorem textsOf_is (a : Option Addr) (n cap : Nat) (l : List Ce) (w : World) (hn : n = l.length) (hB : RdC w a cap l) (hl : l.length ≤ 70000) :
    Calls Tryz.prog 32 #[.slice a n cap] w fun e w' => ∃ v, e = .returned v ∧ OwnR 9 st w' w.heap.size v (Ck.t2 l) ∧ Ex w w' := by
  have HN : Hid (n = l.length) := hn
  have HB : Hid (RdC w a cap l) := hB
  have hn7 : n ≤ 70000 := by omega
  have hcl : n ≤ cap := by have := hB.1; omega
  have hcm := hB.2.1
  unfold maxLen at hcm
  obtain ⟨base, hbase⟩ : ∃ base, base = w.heap.size := ⟨_, rfl⟩
  have HBa : Hid (base = w.heap.size) := hbase
  rw [← hbase]
  have hO0 : Hid (OwnR 9 st w base (.slice none 0 0) []) := (⟨by simp, .inl ⟨rfl, rfl⟩⟩ : OwnR 9 st w base (.slice none 0 0) [])
  have hB0 : Hid (Below base w w) := Below.refl _ _
  clear hB hn hl hbase
  go_enter Tryz.func32, Tryz.ntmps32
  go_wp2_with fail
  go_loopw [3, 5, 8] (fun ov cv iv wr => ∃ (i : Nat), i ≤ n ∧ iv = .int .i64 (i : Int) ∧ Hid (OwnR 9 st wr base ov (Ck.t2 (l.take i))) ∧ Hid (Below base w wr)) (fun ov cv iv wr => n - (intOf iv).toNat)
  case atStart => exact ⟨0, by omega, rfl, hO0, hB0⟩
  case round =>
    obtain ⟨i, hi, rfl, HO, HBl⟩ := hrel
    clear hO0 hB0
    have hEx : Ex w wr := by have := HBl.out; rw [HBa.out] at this; exact this
    have hsz : base ≤ wr.heap.size := by rw [HBa.out]; exact hEx.size
    have HEx : Hid (Ex w wr) := hEx
    clear hEx
    by_cases hlt : i < n
    · have ti : (i : Int) < (n : Int) := by omega
      have hlt2 : i < l.length := by rw [← HN.out]; exact hlt
      obtain ⟨bq, off, rfl, e0, e1, e2, e3⟩ := RdC.four (HB.out.below HEx.out) hlt2
      obtain ⟨d, hd⟩ : ∃ d, l[i] = d := ⟨_, rfl⟩
      rw [hd] at e0 e1 e2 e3
      have hsn := Ck.t2_snoc (l.take i) l[i]
      rw [← take_snoc hlt2, hd] at hsn
      have hol := Ck.t2_len (l.take i)
      have hol2 : (Ck.t2 (l.take i)).length ≤ 70000 := by have : (l.take i).length ≤ i := by simp; omega
                                                          omega
      obtain ⟨w1, hw1⟩ : ∃ w1, wr.alloc (cb d) = w1 := ⟨_, rfl⟩
      have hB1 : Below base w w1 := by rw [← hw1]; exact HBl.out.alloc hsz _
      have HB1 : Hid (Below base w w1) := hB1
      have HO1 : Hid (OwnR 9 st w1 base u3 (Ck.t2 (l.take i))) := (by rw [← hw1]; exact HO.out.alloc _ : OwnR 9 st w1 base u3 (Ck.t2 (l.take i)))
      have hsz1 : base ≤ w1.heap.size := by rw [← hw1]; simp; omega
      have hE1 : EAt w1 wr.heap.size d := by rw [← hw1]; exact EAt.new wr d
      obtain ⟨g0, g1, g2, g3⟩ := hE1.all
      clear hd hE1 hol hB1
      by_cases h2 : d.k = 2
      · have t1 : (d.k == 2) = true := by simp [h2]
        rw [if_pos h2] at hsn
        have HS : Hid (Ck.t2 (l.take (i + 1)) = Ck.t2 (l.take i) ++ [d.s]) := hsn
        clear hsn h2
        have hov := HO1.out
        go_wp2_with (at_builtin; refine wpList_append_rd (e := 9) (enc := st) rfl (.tmp 15) (.tmp 18) 35 rfl [] 16 Tryz.underlying35 Tryz.info9 rfl (fun _ => rfl) base _ (Ck.t2 (l.take i)) rfl (hov.alloc _) _ _ _ [d.s] rfl rfl (Rd.laid w1 9 [d.s] (by simp)) (by simp [maxLen]; omega) (by simp; omega) (by simp; omega) ?_; intro v9 w9 ho9 hg9; have X9 : Below base w w9 := step_belowR (Below.alloc HB1.out hsz1 _) (by simp; omega) (hov.alloc _) hg9; clear hg9)
        have HO9 : Hid (OwnR 9 st w9 base v9 (Ck.t2 (l.take (i + 1)))) := (by rw [HS.out]; exact ho9 : OwnR 9 st w9 base v9 (Ck.t2 (l.take (i + 1))))
        have HX9 : Hid (Below base w w9) := X9
        clear ho9 X9 hov
        go_wp2
        go_roundw
        case rel => exact ⟨i + 1, by omega, by go_num, HO9, HX9⟩
        case measure => simp [intOf]; omega
      · have t1 : (d.k == 2) = false := by simp [h2]
        rw [if_neg h2] at hsn
        have HO9 : Hid (OwnR 9 st w1 base u3 (Ck.t2 (l.take (i + 1)))) := (by rw [hsn]; exact HO1.out : OwnR 9 st w1 base u3 (Ck.t2 (l.take (i + 1))))
        clear hsn h2
        go_wp2_with fail
        go_roundw
        case rel => exact ⟨i + 1, by omega, by go_num, HO9, HB1⟩
        case measure => simp [intOf]; omega
    · have ti : ¬ (i : Int) < (n : Int) := by omega
      have ho := HO.out
      rw [List.take_of_length_le (by rw [← HN.out]; omega)] at ho
      have HO2 : Hid (OwnR 9 st wr base u3 (Ck.t2 l)) := ho
      clear ho
      go_wp2_with fail
      go_ret
      exact ⟨_, rfl, HO2.out, HEx.out⟩
set_option maxHeartbeats 4000000 in
set_option maxRecDepth 100000 in
theorem numbersOf_is (a : Option Addr) (n cap : Nat) (l : List Ce) (w : World) (hn : n = l.length) (hB : RdC w a cap l) (hl : l.length ≤ 70000) (h64 : ∀ c ∈ l, In64 c.n) :
    Calls Tryz.prog 31 #[.slice a n cap] w fun e w' => ∃ v, e = .returned v ∧ Own w' w.heap.size v (Ck.bI (Ck.n1 l)) ∧ Ex w w' := by
  have HN : Hid (n = l.length) := hn
  have HB : Hid (RdC w a cap l) := hB
  have H64 : Hid (∀ c ∈ l, In64 c.n) := h64
  have hn7 : n ≤ 70000 := by omega
  have hcl : n ≤ cap := by have := hB.1; omega
  have hcm := hB.2.1
  unfold maxLen at hcm
  obtain ⟨base, hbase⟩ : ∃ base, base = w.heap.size := ⟨_, rfl⟩
  have HBa : Hid (base = w.heap.size) := hbase
  rw [← hbase]
  have hO0 : Hid (Own w base (.slice none 0 0) []) := (⟨by simp [cs], .inl ⟨rfl, rfl⟩⟩ : Own w base (.slice none 0 0) [])
  have hB0 : Hid (Below base w w) := Below.refl _ _
  clear hB hn hl hbase h64
  go_enter Tryz.func31, Tryz.ntmps31
  go_wp2_with fail
  go_loopw [3, 5, 8] (fun ov cv iv wr => ∃ (i : Nat), i ≤ n ∧ iv = .int .i64 (i : Int) ∧ Hid (Own wr base ov (Ck.bI (Ck.n1 (l.take i)))) ∧ Hid (Below base w wr)) (fun ov cv iv wr => n - (intOf iv).toNat)
  case atStart => exact ⟨0, by omega, rfl, hO0, hB0⟩
  case round =>
    obtain ⟨i, hi, rfl, HO, HBl⟩ := hrel
    clear hO0 hB0
    have hEx : Ex w wr := by have := HBl.out; rw [HBa.out] at this; exact this
    have hsz : base ≤ wr.heap.size := by rw [HBa.out]; exact hEx.size
    have HEx : Hid (Ex w wr) := hEx
    clear hEx
    by_cases hlt : i < n
    · have ti : (i : Int) < (n : Int) := by omega
      have hlt2 : i < l.length := by rw [← HN.out]; exact hlt
      obtain ⟨bq, off, rfl, e0, e1, e2, e3⟩ := RdC.four (HB.out.below HEx.out) hlt2
      have hd64 : In64 l[i].n := H64.out _ (List.getElem_mem hlt2)
      obtain ⟨d, hd⟩ : ∃ d, l[i] = d := ⟨_, rfl⟩
      rw [hd] at e0 e1 e2 e3 hd64
      have hsn := Ck.n1_snoc (l.take i) l[i]
      rw [← take_snoc hlt2, hd] at hsn
      have hol2 : (Ck.bI (Ck.n1 (l.take i))).length ≤ 700000 := by
        have h1 := Ck.bI_len (Ck.n1 (l.take i))
        have h2 := Ck.n1_len (l.take i)
        have h3 : (l.take i).length ≤ i := by simp; omega
        omega
      obtain ⟨w1, hw1⟩ : ∃ w1, wr.alloc (cb d) = w1 := ⟨_, rfl⟩
      have hB1 : Below base w w1 := by rw [← hw1]; exact HBl.out.alloc hsz _
      have HB1 : Hid (Below base w w1) := hB1
      have HO1 : Hid (Own w1 base u3 (Ck.bI (Ck.n1 (l.take i)))) := (by rw [← hw1]; exact HO.out.later ((Below.refl _ _).alloc (Nat.le_refl _) _) : Own w1 base u3 (Ck.bI (Ck.n1 (l.take i))))
      have hsz1 : base ≤ w1.heap.size := by rw [← hw1]; simp; omega
      have hE1 : EAt w1 wr.heap.size d := by rw [← hw1]; exact EAt.new wr d
      obtain ⟨g0, g1, g2, g3⟩ := hE1.all
      clear hd hE1 hB1
      by_cases h2 : d.k = 1
      · have t1 : (d.k == 1) = true := by simp [h2]
        rw [if_pos h2] at hsn
        have hz := Rw.zig_lt hd64
        obtain ⟨Z, hZ⟩ : ∃ Z, (M.zig d.n).toNat = Z := ⟨_, rfl⟩
        have hzz : M.zig d.n = (Z : Int) := by omega
        have HS : Hid (Ck.bI (Ck.n1 (l.take (i + 1))) = Ck.bI (Ck.n1 (l.take i)) ++ M.digs Z) := (by rw [hsn, Ck.bI_snoc, hZ] : Ck.bI (Ck.n1 (l.take (i + 1))) = Ck.bI (Ck.n1 (l.take i)) ++ M.digs Z)
        have HZ : Hid (M.zig d.n = (Z : Int)) := hzz
        have hZ64 : Z < 18446744073709551616 := by omega
        have HI : Hid (In64 d.n) := hd64
        have hdl := (M.digs_len Z).2
        clear hsn h2 hz hZ hzz hd64
        go_wp2_with fail
        go_at_call 66
        refine (zig_is d.n Z w1 HI.out.1 HI.out.2 HZ.out).mono ?_
        rintro e8 wq ⟨rfl, hwq⟩
        have hwq' := hwq.symm; clear hwq; subst hwq'
        go_wp2_with fail
        go_at_call 65
        refine (put_is none 0 0 [] (M.digs Z) (Z : Int) Z w1 rfl rfl (Byt.nil _) rfl hZ64 (by simp)).mono ?_
        rintro e9 w2 ⟨v2, rfl, hv2, hx2⟩
        obtain ⟨a2, c2, rfl, hb2⟩ := hv2.byt
        have HB2 : Hid (Byt w2 a2 c2 (M.digs Z)) := hb2
        have hx2' : Ex w1 w2 := hx2
        have HBl2 : Hid (Below base w w2) := HB1.out.trans (hx2'.mono hsz1)
        have HO2 : Hid (Own w2 base u3 (Ck.bI (Ck.n1 (l.take i)))) := HO1.out.later hx2'
        have hsz2 : base ≤ w2.heap.size := Nat.le_trans hsz1 hx2'.size
        clear hv2 hx2 hb2 hx2'
        go_wp2_with (at_builtin; refine wpList_append_byt rfl (.tmp 15) (.tmp 19) rfl base _ (Ck.bI (Ck.n1 (l.take i))) rfl HO2.out a2 _ c2 (M.digs Z) rfl rfl HB2.out (by omega) hsz2 ?_; intro v9 w9 ho9 hg9; have X9 : Below base w w9 := step_below0 HBl2.out hsz2 HO2.out hg9; clear hg9)
        have HO9 : Hid (Own w9 base v9 (Ck.bI (Ck.n1 (l.take (i + 1))))) := (by rw [HS.out]; exact ho9 : Own w9 base v9 (Ck.bI (Ck.n1 (l.take (i + 1)))))
        have HX9 : Hid (Below base w w9) := X9
        clear ho9 X9
        go_wp2
        go_roundw
        case rel => exact ⟨i + 1, by omega, by go_num, HO9, HX9⟩
        case measure => simp [intOf]; omega
      · have t1 : (d.k == 1) = false := by simp [h2]
        rw [if_neg h2] at hsn
        have HO9 : Hid (Own w1 base u3 (Ck.bI (Ck.n1 (l.take (i + 1))))) := (by rw [hsn]; exact HO1.out : Own w1 base u3 (Ck.bI (Ck.n1 (l.take (i + 1)))))
        clear hsn h2
        go_wp2_with fail
        go_roundw
        case rel => exact ⟨i + 1, by omega, by go_num, HO9, HB1⟩
        case measure => simp [intOf]; omega
    · have ti : ¬ (i : Int) < (n : Int) := by omega
      have ho := HO.out
      rw [List.take_of_length_le (by rw [← HN.out]; omega)] at ho
      have HO2 : Hid (Own wr base u3 (Ck.bI (Ck.n1 l))) := ho
      clear ho
      go_wp2_with fail
      go_ret
      exact ⟨_, rfl, HO2.out, HEx.out⟩
set_option maxHeartbeats 4000000 in
set_option maxRecDepth 100000 in
theorem plainOf_is (a : Option Addr) (n cap : Nat) (l : List (List UInt8)) (w : World) (hn : n = l.length) (hB : Rd st w a cap l) (hl : l.length ≤ 70000) (h40 : ∀ s ∈ l, s.length ≤ 41) :
    Calls Tryz.prog 36 #[.slice a n cap] w fun e w' => ∃ v, e = .returned v ∧ Own w' w.heap.size v (T.texts l) ∧ Ex w w' := by
  have HN : Hid (n = l.length) := hn
  have HB : Hid (Rd st w a cap l) := hB
  have H40 : Hid (∀ s ∈ l, s.length ≤ 41) := h40
  have hn7 : n ≤ 70000 := by omega
  have hcl : n ≤ cap := by have := hB.1; omega
  have hcm := hB.2.1
  unfold maxLen at hcm
  obtain ⟨base, hbase⟩ : ∃ base, base = w.heap.size := ⟨_, rfl⟩
  have HBa : Hid (base = w.heap.size) := hbase
  rw [← hbase]
  have hO0 : Hid (Own w base (.slice none 0 0) []) := (⟨by simp [cs], .inl ⟨rfl, rfl⟩⟩ : Own w base (.slice none 0 0) [])
  have hB0 : Hid (Below base w w) := Below.refl _ _
  clear hB hn hl hbase h40
  go_enter Tryz.func36, Tryz.ntmps36
  go_wp2_with fail
  go_loopw [3, 5, 8] (fun ov cv iv wr => ∃ (i : Nat), i ≤ n ∧ iv = .int .i64 (i : Int) ∧ Hid (Own wr base ov (T.texts (l.take i))) ∧ Hid (Below base w wr)) (fun ov cv iv wr => n - (intOf iv).toNat)
  case atStart => exact ⟨0, by omega, rfl, hO0, hB0⟩
  case round =>
    obtain ⟨i, hi, rfl, HO, HBl⟩ := hrel
    clear hO0 hB0
    have hEx : Ex w wr := by have := HBl.out; rw [HBa.out] at this; exact this
    have hsz : base ≤ wr.heap.size := by rw [HBa.out]; exact hEx.size
    have HEx : Hid (Ex w wr) := hEx
    clear hEx
    by_cases hlt : i < n
    · have ti : (i : Int) < (n : Int) := by omega
      have hlt2 : i < l.length := by rw [← HN.out]; exact hlt
      obtain ⟨bq, off, rfl, hc⟩ := (HB.out.below HEx.out).at hlt2
      have hd41 : l[i].length ≤ 41 := H40.out _ (List.getElem_mem hlt2)
      obtain ⟨d, hd⟩ : ∃ d, l[i] = d := ⟨_, rfl⟩
      rw [hd] at hc hd41
      have hc' : wr.cell? ⟨bq, off + i, none⟩ = some (.string (str d)) := hc
      have hsn : T.texts (l.take (i + 1)) = T.texts (l.take i) ++ T.ptext d := by rw [take_snoc hlt2, T.texts_snoc, hd]
      have HS : Hid (T.texts (l.take (i + 1)) = T.texts (l.take i) ++ T.ptext d) := hsn
      have hol2 : (T.texts (l.take i)).length ≤ 3570000 := by
        have h1 := T.texts_len (l.take i) (fun s hs => H40.out s (List.mem_of_mem_take hs))
        have h3 : (l.take i).length ≤ i := by simp; omega
        omega
      have hdl : (T.ptext d).length ≤ 51 := by have := (M.digs_len d.length).2; unfold T.ptext; rw [List.length_append]; omega
      clear hd hc hsn
      go_wp2_with fail
      go_at_call 73
      refine (putText_any none 0 [] d (T.ptext d) wr (Byt.nil _) (by simp [T.ptext]) (by simp; omega)).mono ?_
      rintro e9 w2 ⟨v2, rfl, hv2, hx2⟩
      obtain ⟨a2, c2, rfl, hb2⟩ := hv2.byt
      have HB2 : Hid (Byt w2 a2 c2 (T.ptext d)) := hb2
      have hx2' : Ex wr w2 := hx2
      have HBl2 : Hid (Below base w w2) := HBl.out.trans (hx2'.mono hsz)
      have HO2 : Hid (Own w2 base u3 (T.texts (l.take i))) := HO.out.later hx2'
      have hsz2 : base ≤ w2.heap.size := Nat.le_trans hsz hx2'.size
      clear hv2 hx2 hb2 hx2'
      go_wp2_with (at_builtin; refine wpList_append_byt rfl (.tmp 12) (.tmp 14) rfl base _ (T.texts (l.take i)) rfl HO2.out a2 _ c2 (T.ptext d) rfl rfl HB2.out (by omega) hsz2 ?_; intro v9 w9 ho9 hg9; have X9 : Below base w w9 := step_below0 HBl2.out hsz2 HO2.out hg9; clear hg9)
      have HO9 : Hid (Own w9 base v9 (T.texts (l.take (i + 1)))) := (by rw [HS.out]; exact ho9 : Own w9 base v9 (T.texts (l.take (i + 1))))
      have HX9 : Hid (Below base w w9) := X9
      clear ho9 X9
      go_wp2
      go_roundw
      case rel => exact ⟨i + 1, by omega, by go_num, HO9, HX9⟩
      case measure => simp [intOf]; omega
    · have ti : ¬ (i : Int) < (n : Int) := by omega
      have ho := HO.out
      rw [List.take_of_length_le (by rw [← HN.out]; omega)] at ho
      have HO2 : Hid (Own wr base u3 (T.texts l)) := ho
      clear ho
      go_wp2_with fail
      go_ret
      exact ⟨_, rfl, HO2.out, HEx.out⟩
end Go.Proofs.YtnmonoafjijfhaaGreat
