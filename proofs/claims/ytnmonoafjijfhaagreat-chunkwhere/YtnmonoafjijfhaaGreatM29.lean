/-
  The landed reader of a column: its memory; refuse, number, count, runs.
-/
import Derived.Test.YtnmonoafjijfhaaGreatM07
import Derived.Test.YtnmonoafjijfhaaGreatM14
import Derived.Test.YtnmonoafjijfhaaGreatM28
import Derived.Test.YtnmonoafjijfhaaGreatM05
namespace Go.Proofs.YtnmonoafjijfhaaGreat
open Go.RowKit
set_option linter.unusedVariables false
set_option linter.unusedSimpArgs false
abbrev rdb (a : Option Addr) (n cap : Nat) (s : CS) : Obj := .cells #[.slice a n cap, .int .i64 s.at', .int .i64 (s.y : Int)] 133
/-- A reader in a block. -/
def RAt (w : World) (g : Nat) (a : Option Addr) (n cap : Nat) (s : CS) : Prop := w.heap[g]? = some (rdb a n cap s)
theorem RAt.lt {w : World} {g : Nat} {a : Option Addr} {n cap : Nat} {s : CS} (h : RAt w g a n cap s) : g < w.heap.size := (Array.getElem?_eq_some_iff.1 h).1
theorem RAt.all {w : World} {g : Nat} {a : Option Addr} {n cap : Nat} {s : CS} (h : RAt w g a n cap s) : w.cell? ⟨g, 0, none⟩ = some (.slice a n cap) ∧ w.cell? ⟨g, 1, none⟩ = some (.int .i64 s.at') ∧ w.cell? ⟨g, 2, none⟩ = some (.int .i64 (s.y : Int)) := by
  refine ⟨?_, ?_, ?_⟩ <;> (rw [cell_of_row w g _ _ 133 (0, 0) h]; rfl)
theorem RAt.fro {w : World} {g : Nat} {a : Option Addr} {n cap : Nat} {s : CS} (h : RAt w g a n cap s) : w.frozen? ⟨g, 1, none⟩ = false ∧ w.frozen? ⟨g, 2, none⟩ = false := ⟨frozen_of_row _ _ _ _ _ h, frozen_of_row _ _ _ _ _ h⟩
theorem RAt.set1 {w : World} {g : Nat} {a : Option Addr} {n cap : Nat} {s : CS} (h : RAt w g a n cap s) (x : Int) : RAt (w.setCell ⟨g, 1, none⟩ (.int .i64 x)) g a n cap ⟨x, s.y⟩ := by
  unfold RAt; rw [heap_setCell_same w g 1 _ 133 _ h]; rfl
theorem RAt.set2 {w : World} {g : Nat} {a : Option Addr} {n cap : Nat} {s : CS} (h : RAt w g a n cap s) (x : Nat) : RAt (w.setCell ⟨g, 2, none⟩ (.int .i64 (x : Int))) g a n cap ⟨s.at', x⟩ := by
  unfold RAt; rw [heap_setCell_same w g 2 _ 133 _ h]; rfl
theorem RAt.below {w w' : World} {g : Nat} {a : Option Addr} {n cap : Nat} {s : CS} (h : RAt w g a n cap s) (hx : Ex w w') : RAt w' g a n cap s := by
  unfold RAt; rw [hx.block g h.lt]; exact h
theorem RAt.far {w w' : World} {g : Nat} {a : Option Addr} {n cap : Nat} {s : CS} {row : Option Nat} (h : RAt w g a n cap s) (hg : w.grownBy w' row) (hne : row ≠ some g) : RAt w' g a n cap s := by
  unfold RAt; rw [hg.block g h.lt (fun e => hne e.symm)]; exact h
/-- A reader of these bytes, which lie elsewhere. -/
def Rdr (w : World) (g : Nat) (a : Option Addr) (cap : Nat) (b : List UInt8) (s : CS) : Prop := RAt w g a b.length cap s ∧ Byt w a cap b ∧ (0 < b.length → ∀ q off, a = some ⟨q, off, none⟩ → q ≠ g)
theorem Rdr.below {w w' : World} {g : Nat} {a : Option Addr} {cap : Nat} {b : List UInt8} {s : CS} (h : Rdr w g a cap b s) (hx : Ex w w') : Rdr w' g a cap b s := ⟨h.1.below hx, h.2.1.below hx, h.2.2⟩
theorem Rdr.far {w w' : World} {g : Nat} {a : Option Addr} {cap : Nat} {b : List UInt8} {s : CS} {row : Option Nat} (h : Rdr w g a cap b s) (hg : w.grownBy w' row) (hne : row ≠ some g) (ha : 0 < b.length → ∀ q off, a = some ⟨q, off, none⟩ → row ≠ some q) : Rdr w' g a cap b s := ⟨h.1.far hg hne, byt_far h.2.1 hg ha, h.2.2⟩
/-- Written to. -/
theorem Rdr.to {w w' : World} {g : Nat} {a : Option Addr} {cap : Nat} {b : List UInt8} {s s' : CS} (h : Rdr w g a cap b s) (hR : RAt w' g a b.length cap s') (hg : w.grownBy w' (some g)) : Rdr w' g a cap b s' := ⟨hR, byt_far h.2.1 hg (fun h0 q off e => fun e2 => h.2.2 h0 q off e (by simpa using e2.symm)), h.2.2⟩
/-- Elements far from a block that has grown. -/
theorem rd_far {α : Type} {enc : α → Value} {w w' : World} {a : Option Addr} {cap : Nat} {l : List α} {row : Option Nat} (h : Rd enc w a cap l) (hg : w.grownBy w' row) (ha : 0 < l.length → ∀ b off, a = some ⟨b, off, none⟩ → row ≠ some b) : Rd enc w' a cap l := by
  refine ⟨h.1, h.2.1, h.2.2.1, fun i x hi => ?_⟩
  obtain ⟨b, off, e, hc⟩ := h.2.2.2 i x hi
  have hl : i < l.length := (List.getElem?_eq_some_iff.1 hi).1
  refine ⟨b, off, e, ?_⟩
  rw [hg.cell_far ⟨b, off + i, none⟩ (World.block_lt_of_cell? w _ hc) (Ne.symm (ha (by omega) b off e))]
  exact hc
/-- A slice of these elements, none of which lies in block g. -/
def IsRdA {α : Type} (enc : α → Value) (r : List α) (g : Nat) (u : Value) (w : World) : Prop := ∃ a cap, u = .slice a r.length cap ∧ Rd enc w a cap r ∧ (0 < r.length → ∀ q off, a = some ⟨q, off, none⟩ → q ≠ g)
theorem IsRdA.far {α : Type} {enc : α → Value} {r : List α} {g : Nat} {u : Value} {w w' : World} (h : IsRdA enc r g u w) (hg : w.grownBy w' (some g)) : IsRdA enc r g u w' := by
  obtain ⟨a, cap, rfl, hR, hne⟩ := h
  exact ⟨a, cap, rfl, rd_far hR hg (fun h0 q off e => fun e2 => hne h0 q off e (by simpa using e2.symm)), hne⟩
/-- Numbers lie in no reader's block. -/
theorem rd_n64_ne {w : World} {g : Nat} {a : Option Addr} {n cap : Nat} {s : CS} {a' : Option Addr} {cap' : Nat} {r : List Nat} (h : RAt w g a n cap s) (hR : Rd n64 w a' cap' r) : 0 < r.length → ∀ q off, a' = some ⟨q, off, none⟩ → q ≠ g := by
  intro h0 q off e hq
  subst hq
  obtain ⟨b, o, e2, hc⟩ := hR.2.2.2 0 r[0] (List.getElem?_eq_getElem h0)
  rw [e] at e2
  simp only [Option.some.injEq, Addr.mk.injEq, and_true] at e2
  obtain ⟨rfl, rfl⟩ := e2
  rw [cell_of_row w q _ _ 133 (0, 0) h] at hc
  simp only [Nat.add_zero] at hc
  match off, hc with
  | 0, hc => simp at hc
  | 1, hc => simp [n64] at hc
  | 2, hc => simp [n64] at hc
  | j + 3, hc => simp at hc
theorem rd_st_ne {w : World} {g : Nat} {a : Option Addr} {n cap : Nat} {s : CS} {a' : Option Addr} {cap' : Nat} {r : List (List UInt8)} (h : RAt w g a n cap s) (hR : Rd st w a' cap' r) : 0 < r.length → ∀ q off, a' = some ⟨q, off, none⟩ → q ≠ g := by
  intro h0 q off e hq
  subst hq
  obtain ⟨b, o, e2, hc⟩ := hR.2.2.2 0 r[0] (List.getElem?_eq_getElem h0)
  rw [e] at e2
  simp only [Option.some.injEq, Addr.mk.injEq, and_true] at e2
  obtain ⟨rfl, rfl⟩ := e2
  rw [cell_of_row w q _ _ 133 (0, 0) h] at hc
  simp only [Nat.add_zero] at hc
  match off, hc with
  | 0, hc => simp at hc
  | 1, hc => simp [st] at hc
  | 2, hc => simp [st] at hc
  | j + 3, hc => simp at hc
theorem Rg.good_extractP {P : Program} {ops : Array Oper} {specs : List Rg.Spec} {a0 : Act} {C : World → Prop} {E : World → World → Prop} {o : Oper} {x : Operand} {k : Nat} {p : Value → World → Prop} {s : Rg.Spec} (hrefl : ∀ w, E w w) (ho : o.op = .extract x k) (hg : Rg.guardV ops specs a0 o = some true)
    (hx : Rg.argS ops specs a0 x = .inr p) (hp : ∀ v w, p v w → ∃ vs u, v = .tuple vs ∧ vs[k]? = some u ∧ s.ok u w) : Rg.GoodOp P ops specs a0 C E o s :=
  Rg.good_val hrefl hg fun a w hC hh => by
    have h1 := hh x (by rw [ho]; simp [Op.operands])
    rw [hx] at h1
    obtain ⟨vs, u, hv, hu, hok⟩ := hp _ _ h1
    refine ⟨u, ?_, hok⟩
    unfold execOp
    rw [ho]
    simp only [hv, Instr.extract, hu]
    rfl
/-- Three results of which the first is a list. -/
def Is3 {α : Type} (enc : α → Value) (r : List α) (g k e : Nat) (v : Value) (w : World) : Prop := ∃ u, v = .tuple #[u, .int .i64 (k : Int), .int .i64 (e : Int)] ∧ IsRdA enc r g u w
theorem Is3.far {α : Type} {enc : α → Value} {r : List α} {g k e : Nat} {v : Value} {w w' : World} (h : Is3 enc r g k e v w) (hg : w.grownBy w' (some g)) : Is3 enc r g k e v w' := by
  obtain ⟨u, h1, h2⟩ := h
  exact ⟨u, h1, h2.far hg⟩
theorem Is3.at0 {α : Type} {enc : α → Value} {r : List α} {g k e : Nat} : ∀ v w, Is3 enc r g k e v w → ∃ vs u, v = .tuple vs ∧ vs[0]? = some u ∧ Rg.Spec.ok (.inr (IsRdA enc r g)) u w := by
  rintro v w ⟨u, rfl, hu⟩
  exact ⟨_, u, rfl, rfl, hu⟩
theorem Is3.at1 {α : Type} {enc : α → Value} {r : List α} {g k e : Nat} : ∀ v w, Is3 enc r g k e v w → ∃ vs u, v = .tuple vs ∧ vs[1]? = some u ∧ Rg.Spec.ok (.inl (.int .i64 (k : Int))) u w := by
  rintro v w ⟨u, rfl, hu⟩
  exact ⟨_, _, rfl, rfl, rfl⟩
theorem Is3.at2 {α : Type} {enc : α → Value} {r : List α} {g k e : Nat} : ∀ v w, Is3 enc r g k e v w → ∃ vs u, v = .tuple vs ∧ vs[2]? = some u ∧ Rg.Spec.ok (.inl (.int .i64 (e : Int))) u w := by
  rintro v w ⟨u, rfl, hu⟩
  exact ⟨_, _, rfl, rfl, rfl⟩
set_option maxHeartbeats 1000000 in
theorem refuse_is (g : Nat) (a : Option Addr) (cap : Nat) (b : List UInt8) (s : CS) (E : Int) (e : Nat) (w : World) (h : Rdr w g a cap b s) (hE : E = e) :
    Calls Tryz.prog 89 #[.pointer (some ⟨g, 0, none⟩), .int .i64 E] w fun x w' => x = .returned (.tuple #[]) ∧ Rdr w' g a cap b (Ck.refu e s) ∧ w.grownBy w' (some g) := by
  subst hE
  obtain ⟨at', y⟩ := s
  have H : Hid (Rdr w g a cap b ⟨at', y⟩) := h
  obtain ⟨i0, i1, i2⟩ := h.1.all
  obtain ⟨j1, j2⟩ := h.1.fro
  simp only at i1 i2
  clear h
  go_enter Tryz.func89, Tryz.ntmps89
  by_cases hy : y = 0
  · subst hy
    have HR : Hid (Ck.refu e ⟨at', 0⟩ = ⟨at', e⟩) := (rfl : Ck.refu e ⟨at', 0⟩ = ⟨at', e⟩)
    go_wp2_with fail
    refine bodyPost_end (results_none Tryz.results89 _ _ _) rfl ?_
    refine ⟨rfl, ?_, grown_set1 _ _ _ _⟩
    rw [HR.out]
    exact H.out.to (H.out.1.set2 e) (grown_set1 _ _ _ _)
  · have t1 : ((y : Int) == 0) = false := beq_eq_false_iff_ne.2 (by omega)
    have HR : Hid (Ck.refu e ⟨at', y⟩ = ⟨at', y⟩) := Ck.refu_y hy
    go_wp2_with fail
    refine bodyPost_end (results_none Tryz.results89 _ _ _) rfl ?_
    exact ⟨rfl, by rw [HR.out]; exact H.out, World.grownBy.refl _ _⟩
set_option maxHeartbeats 4000000 in
set_option maxRecDepth 100000 in
theorem number_is (g : Nat) (a : Option Addr) (cap : Nat) (b : List UInt8) (s : CS) (w : World) (h : Rdr w g a cap b s) :
    Calls Tryz.prog 80 #[.pointer (some ⟨g, 0, none⟩)] w fun x w' => x = .returned (.int .u64 ((Ck.lnum b s).1 : Int)) ∧ Rdr w' g a cap b (Ck.lnum b s).2 ∧ w.grownBy w' (some g) := by
  obtain ⟨at', y⟩ := s
  have H : Hid (Rdr w g a cap b ⟨at', y⟩) := h
  obtain ⟨i0, i1, i2⟩ := h.1.all
  simp only at i1 i2
  by_cases hy : y = 0
  · subst hy
    obtain ⟨⟨V, k, e⟩, hG⟩ : ∃ x, M.get b at' = x := ⟨_, rfl⟩
    have HG : Hid (M.get b at' = (V, k, e)) := hG
    have HP : Hid (Ck.lnum b ⟨at', 0⟩ = (V, ⟨(k : Int), e⟩)) := (by rw [Ck.lnum_0, hG] : Ck.lnum b ⟨at', 0⟩ = (V, ⟨(k : Int), e⟩))
    rw [HP.out]
    clear h hG
    go_enter Tryz.func80, Tryz.ntmps80
    go_wp2_with fail
    have hre : ∀ u : World, u = u := fun _ => rfl
    have HD : Hid (Rdr w.drew g a cap b ⟨at', 0⟩) := H.out.below (Ex.drew w)
    obtain ⟨j0, j1, j2⟩ := HD.out.1.all
    simp only at j1 j2
    refine Rg.Fr.wp_call2 10 18 21 (by decide) (by decide) (by decide) (fun a b => a.grownBy b (some g)) (fun w2 => Ex w.drew w2) (fun w2 => Rdr w2 g a cap b ⟨(k : Int), 0⟩ ∧ w.drew.grownBy w2 (some g)) (fun w2 => Rdr w2 g a cap b ⟨(k : Int), e⟩ ∧ w.drew.grownBy w2 (some g)) [5, 9] [.inl (Value.pointer (some ⟨g, 0, none⟩)), .inl (Value.pointer (some ⟨g, 0, none⟩)), .inl (Value.pointer (some ⟨g, 0, none⟩)), .inl (Value.pointer (some ⟨g, 0, none⟩)), .inl (Value.pointer (some ⟨g, 0, none⟩)), .inl (Value.slice a b.length cap), .inl (Value.pointer (some ⟨g, 0, none⟩)), .inl (Value.pointer (some ⟨g, 0, none⟩)), .inl (Value.pointer (some ⟨g, 1, none⟩)), .inl (Value.int .i64 at'), .inl (Value.tuple #[Value.int .u64 (V : Int), .int .i64 (k : Int), .int .i64 (e : Int)]), .inl (Value.tuple #[Value.int .u64 (V : Int), .int .i64 (k : Int), .int .i64 (e : Int)]), .inl (Value.int .u64 (V : Int)), .inl (Value.int .i64 (k : Int)), .inl (Value.int .i64 (e : Int)), .inl (Value.int .u64 (V : Int)), .inl (Value.pointer (some ⟨g, 0, none⟩)), .inl (Value.pointer (some ⟨g, 1, none⟩)), .inl undef, .inl (Value.pointer (some ⟨g, 0, none⟩)), .inl (Value.pointer (some ⟨g, 2, none⟩)), .inl undef] 29 (by kernel_rfl) rfl (by kernel_rfl) (by kernel_rfl) ?hst (fun w => World.grownBy.refl _ _) _ _ _ rfl rfl rfl (by kernel_rfl) (by kernel_rfl) (by kernel_rfl) rfl rfl _ _ _ _ _ Tryz.func109 (by kernel_rfl) rfl rfl ?rc ?rx ?ry ?hG ?hF
    case hst =>
      refine trivial
    case rc =>
      intro ρ ha
      have h1 : ρ (.tmp 15) = .slice a b.length cap := ha (.tmp 15) (by simp)
      have h2 : ρ (.tmp 19) = .int .i64 at' := ha (.tmp 19) (by simp)
      simp only [List.map_toArray, List.map_cons, List.map_nil, h1, h2]
      exact (get_is a _ cap b at' _ V k e HG.out HD.out.2.1 rfl).mono fun x w' ⟨h3, h4⟩ => ⟨_, h3, rfl, by rw [h4]; exact World.grownBy.refl _ _, by rw [h4]; exact Ex.refl _⟩
    case rx =>
      intro ρ w2 hx ha
      have h1 : ρ (.tmp 25) = .pointer (some ⟨g, 1, none⟩) := ha (.tmp 25) (by simp [Op.operands])
      have h2 : ρ (.tmp 22) = .int .i64 (k : Int) := ha (.tmp 22) (by simp [Op.operands])
      have HR := HD.out.below hx
      obtain ⟨l0, l1, l2⟩ := HR.1.all
      obtain ⟨m1, m2⟩ := HR.1.fro
      simp only at l1 l2
      exact ⟨w2.setCell ⟨g, 1, none⟩ (.int .i64 (k : Int)), by simp [execOp, h1, h2, go_sem, l1, m1], grown_set1 _ _ _ _, HR.to (HR.1.set1 (k : Int)) (grown_set1 _ _ _ _), grown_tr (hx.grownBy _) (grown_set1 _ _ _ _)⟩
    case ry =>
      intro ρ w2 hx ha
      have h1 : ρ (.tmp 27) = .pointer (some ⟨g, 2, none⟩) := ha (.tmp 27) (by simp [Op.operands])
      have h2 : ρ (.tmp 23) = .int .i64 (e : Int) := ha (.tmp 23) (by simp [Op.operands])
      obtain ⟨l0, l1, l2⟩ := hx.1.1.all
      obtain ⟨m1, m2⟩ := hx.1.1.fro
      simp only at l1 l2
      exact ⟨w2.setCell ⟨g, 2, none⟩ (.int .i64 (e : Int)), by simp [execOp, h1, h2, go_sem, l2, m2], grown_set1 _ _ _ _, hx.1.to (hx.1.1.set2 e) (grown_set1 _ _ _ _), grown_tr hx.2 (grown_set1 _ _ _ _)⟩
    case hG =>
      refine ⟨fun _ _ _ => Rg.good_move hre rfl rfl rfl, ?_⟩
      refine ⟨fun _ _ _ => Rg.good_move hre rfl rfl rfl, ?_⟩
      refine ⟨fun _ _ _ => Rg.good_move hre rfl rfl rfl, ?_⟩
      refine ⟨fun _ _ _ => Rg.good_nil hre rfl rfl rfl, ?_⟩
      refine ⟨fun _ _ _ => Rg.good_field hre rfl rfl rfl (fun wx hC => by go_simp), ?_⟩
      refine ⟨fun _ _ _ => Rg.good_load hre rfl rfl rfl (fun wx hC => by have hw := hC (by decide); subst hw; go_simp), ?_⟩
      refine ⟨fun _ _ _ => Rg.good_move hre rfl rfl rfl, ?_⟩
      refine ⟨fun _ _ _ => Rg.good_nil hre rfl rfl rfl, ?_⟩
      refine ⟨fun _ _ _ => Rg.good_field hre rfl rfl rfl (fun wx hC => by go_simp), ?_⟩
      refine ⟨fun _ _ _ => Rg.good_load hre rfl rfl rfl (fun wx hC => by have hw := hC (by decide); subst hw; go_simp), ?_⟩
      refine ⟨fun h => absurd rfl h, ?_⟩
      refine ⟨fun _ _ _ => Rg.good_move hre rfl rfl rfl, ?_⟩
      refine ⟨fun _ _ _ => Rg.good_extract hre rfl rfl rfl rfl, ?_⟩
      refine ⟨fun _ _ _ => Rg.good_extract hre rfl rfl rfl rfl, ?_⟩
      refine ⟨fun _ _ _ => Rg.good_extract hre rfl rfl rfl rfl, ?_⟩
      refine ⟨fun _ _ _ => Rg.good_assign hre rfl rfl rfl, ?_⟩
      refine ⟨fun _ _ _ => Rg.good_nil hre rfl rfl rfl, ?_⟩
      refine ⟨fun _ _ _ => Rg.good_field hre rfl rfl rfl (fun wx hC => by go_simp), ?_⟩
      refine ⟨fun _ h => absurd rfl h, ?_⟩
      refine ⟨fun _ _ _ => Rg.good_nil hre rfl rfl rfl, ?_⟩
      refine ⟨fun _ _ _ => Rg.good_field hre rfl rfl rfl (fun wx hC => by go_simp), ?_⟩
      refine ⟨fun _ _ h => absurd rfl h, ?_⟩
      exact trivial
    case hF =>
      rintro w2 ⟨hR2, hg2⟩
      have HR2 : Hid (Rdr w2 g a cap b ⟨(k : Int), e⟩) := hR2
      have HG2 : Hid (w.grownBy w2 (some g)) := (grown_tr ((Ex.drew w).grownBy _) hg2 : World.grownBy _ _ _)
      clear hR2 hg2
      simp only [Rg.later, Act.put, List.setIfInBounds_toArray, List.set_cons_succ, List.set_cons_zero]
      clear j0 j1 j2
      go_wp2_with fail
      go_ret
      exact ⟨rfl, HR2.out, HG2.out⟩
  · have t1 : ((y : Int) == 0) = false := beq_eq_false_iff_ne.2 (by omega)
    have t2 : ((y : Int) != 0) = true := by simp [bne, t1]
    have HP : Hid (Ck.lnum b ⟨at', y⟩ = (0, ⟨at', y⟩)) := Ck.lnum_y hy
    rw [HP.out]
    clear h
    go_enter Tryz.func80, Tryz.ntmps80
    go_wp2_with fail
    go_ret
    exact ⟨rfl, H.out, World.grownBy.refl _ _⟩
set_option maxHeartbeats 4000000 in
set_option maxRecDepth 100000 in
theorem rruns_is (g : Nat) (a : Option Addr) (cap : Nat) (b : List UInt8) (s : CS) (n : Int) (m : Nat) (wd : Int) (w : World) (h : Rdr w g a cap b s) (hn : n = m) (hbl : b.length ≤ 140737488355328) :
    Calls Tryz.prog 81 #[.pointer (some ⟨g, 0, none⟩), .int .i64 n, .int .i64 wd] w fun x w' => ∃ u, x = .returned u ∧ IsRdA n64 (Ck.lruns b m wd s).1 g u w' ∧ Rdr w' g a cap b (Ck.lruns b m wd s).2 ∧ w.grownBy w' (some g) := by
  obtain ⟨at', y⟩ := s
  have H : Hid (Rdr w g a cap b ⟨at', y⟩) := h
  have HBL : Hid (b.length ≤ 140737488355328) := hbl
  obtain ⟨i0, i1, i2⟩ := h.1.all
  simp only at i1 i2
  by_cases hy : y = 0
  · subst hy
    obtain ⟨⟨r, k, e⟩, hG⟩ : ∃ x, R.dec b at' n wd = x := ⟨_, rfl⟩
    have HG : Hid (R.dec b at' n wd = (r, k, e)) := hG
    have HP : Hid (Ck.lruns b m wd ⟨at', 0⟩ = (r, ⟨(k : Int), e⟩)) := (by rw [Ck.lruns_0, ← hn, hG] : Ck.lruns b m wd ⟨at', 0⟩ = (r, ⟨(k : Int), e⟩))
    rw [HP.out]
    clear h hG hn hbl
    go_enter Tryz.func81, Tryz.ntmps81
    go_wp2_with fail
    have hre : ∀ u : World, u = u := fun _ => rfl
    have HD : Hid (Rdr w.drew g a cap b ⟨at', 0⟩) := H.out.below (Ex.drew w)
    obtain ⟨j0, j1, j2⟩ := HD.out.1.all
    simp only at j1 j2
    refine Rg.Fr.wp_call2 12 20 23 (by decide) (by decide) (by decide) (fun a b => a.grownBy b (some g)) (fun w2 => Ex w.drew w2) (fun w2 => Rdr w2 g a cap b ⟨(k : Int), 0⟩ ∧ w.drew.grownBy w2 (some g)) (fun w2 => Rdr w2 g a cap b ⟨(k : Int), e⟩ ∧ w.drew.grownBy w2 (some g)) [5, 9] [.inl (Value.pointer (some ⟨g, 0, none⟩)), .inl (Value.pointer (some ⟨g, 0, none⟩)), .inl (Value.pointer (some ⟨g, 0, none⟩)), .inl (Value.pointer (some ⟨g, 0, none⟩)), .inl (Value.pointer (some ⟨g, 0, none⟩)), .inl (Value.slice a b.length cap), .inl (Value.pointer (some ⟨g, 0, none⟩)), .inl (Value.pointer (some ⟨g, 0, none⟩)), .inl (Value.pointer (some ⟨g, 1, none⟩)), .inl (Value.int .i64 at'), .inl (Value.int .i64 n), .inl (Value.int .i64 wd), .inr (Is3 n64 r g k e), .inr (Is3 n64 r g k e), .inr (IsRdA n64 r g), .inl (Value.int .i64 (k : Int)), .inl (Value.int .i64 (e : Int)), .inr (IsRdA n64 r g), .inl (Value.pointer (some ⟨g, 0, none⟩)), .inl (Value.pointer (some ⟨g, 1, none⟩)), .inl undef, .inl (Value.pointer (some ⟨g, 0, none⟩)), .inl (Value.pointer (some ⟨g, 2, none⟩)), .inl undef] 35 (by kernel_rfl) rfl (by kernel_rfl) (by kernel_rfl) ?hst (fun w => World.grownBy.refl _ _) _ _ _ rfl rfl rfl (by kernel_rfl) (by kernel_rfl) (by kernel_rfl) rfl rfl _ _ _ _ _ Tryz.func110 (by kernel_rfl) rfl rfl ?rc ?rx ?ry ?hG ?hF
    case hst =>
      refine ⟨fun v w w2 h hg => h.far hg, ⟨fun v w w2 h hg => h.far hg, ⟨fun v w w2 h hg => h.far hg, ⟨fun v w w2 h hg => h.far hg, trivial⟩⟩⟩⟩
    case rc =>
      intro ρ ha
      have h1 : ρ (.tmp 19) = .slice a b.length cap := ha (.tmp 19) (by simp)
      have h2 : ρ (.tmp 23) = .int .i64 at' := ha (.tmp 23) (by simp)
      have h3 : ρ (.tmp 24) = .int .i64 n := ha (.tmp 24) (by simp)
      have h4 : ρ (.tmp 25) = .int .i64 wd := ha (.tmp 25) (by simp)
      simp only [List.map_toArray, List.map_cons, List.map_nil, h1, h2, h3, h4]
      refine (rudec_is a _ cap b at' n wd _ rfl HD.out.2.1 HBL.out r k e HG.out).mono ?_
      rintro x w2 ⟨v, hx, ⟨a2, c2, hv2, hr2⟩, hex⟩
      exact ⟨_, hx, ⟨v, rfl, a2, c2, hv2, hr2, rd_n64_ne (HD.out.below hex).1 hr2⟩, hex.grownBy _, hex⟩
    case rx =>
      intro ρ w2 hx ha
      have h1 : ρ (.tmp 31) = .pointer (some ⟨g, 1, none⟩) := ha (.tmp 31) (by simp [Op.operands])
      have h2 : ρ (.tmp 28) = .int .i64 (k : Int) := ha (.tmp 28) (by simp [Op.operands])
      have HR := HD.out.below hx
      obtain ⟨l0, l1, l2⟩ := HR.1.all
      obtain ⟨m1, m2⟩ := HR.1.fro
      simp only at l1 l2
      exact ⟨w2.setCell ⟨g, 1, none⟩ (.int .i64 (k : Int)), by simp [execOp, h1, h2, go_sem, l1, m1], grown_set1 _ _ _ _, HR.to (HR.1.set1 (k : Int)) (grown_set1 _ _ _ _), grown_tr (hx.grownBy _) (grown_set1 _ _ _ _)⟩
    case ry =>
      intro ρ w2 hx ha
      have h1 : ρ (.tmp 33) = .pointer (some ⟨g, 2, none⟩) := ha (.tmp 33) (by simp [Op.operands])
      have h2 : ρ (.tmp 29) = .int .i64 (e : Int) := ha (.tmp 29) (by simp [Op.operands])
      obtain ⟨l0, l1, l2⟩ := hx.1.1.all
      obtain ⟨m1, m2⟩ := hx.1.1.fro
      simp only at l1 l2
      exact ⟨w2.setCell ⟨g, 2, none⟩ (.int .i64 (e : Int)), by simp [execOp, h1, h2, go_sem, l2, m2], grown_set1 _ _ _ _, hx.1.to (hx.1.1.set2 e) (grown_set1 _ _ _ _), grown_tr hx.2 (grown_set1 _ _ _ _)⟩
    case hG =>
      refine ⟨fun _ _ _ => Rg.good_move hre rfl rfl rfl, ?_⟩
      refine ⟨fun _ _ _ => Rg.good_move hre rfl rfl rfl, ?_⟩
      refine ⟨fun _ _ _ => Rg.good_move hre rfl rfl rfl, ?_⟩
      refine ⟨fun _ _ _ => Rg.good_nil hre rfl rfl rfl, ?_⟩
      refine ⟨fun _ _ _ => Rg.good_field hre rfl rfl rfl (fun wx hC => by go_simp), ?_⟩
      refine ⟨fun _ _ _ => Rg.good_load hre rfl rfl rfl (fun wx hC => by have hw := hC (by decide); subst hw; go_simp), ?_⟩
      refine ⟨fun _ _ _ => Rg.good_move hre rfl rfl rfl, ?_⟩
      refine ⟨fun _ _ _ => Rg.good_nil hre rfl rfl rfl, ?_⟩
      refine ⟨fun _ _ _ => Rg.good_field hre rfl rfl rfl (fun wx hC => by go_simp), ?_⟩
      refine ⟨fun _ _ _ => Rg.good_load hre rfl rfl rfl (fun wx hC => by have hw := hC (by decide); subst hw; go_simp), ?_⟩
      refine ⟨fun _ _ _ => Rg.good_move hre rfl rfl rfl, ?_⟩
      refine ⟨fun _ _ _ => Rg.good_move hre rfl rfl rfl, ?_⟩
      refine ⟨fun h => absurd rfl h, ?_⟩
      refine ⟨fun _ _ _ => Rg.good_move hre rfl rfl rfl, ?_⟩
      refine ⟨fun _ _ _ => Rg.good_extractP hre rfl rfl rfl Is3.at0, ?_⟩
      refine ⟨fun _ _ _ => Rg.good_extractP hre rfl rfl rfl Is3.at1, ?_⟩
      refine ⟨fun _ _ _ => Rg.good_extractP hre rfl rfl rfl Is3.at2, ?_⟩
      refine ⟨fun _ _ _ => Rg.good_assign hre rfl rfl rfl, ?_⟩
      refine ⟨fun _ _ _ => Rg.good_nil hre rfl rfl rfl, ?_⟩
      refine ⟨fun _ _ _ => Rg.good_field hre rfl rfl rfl (fun wx hC => by go_simp), ?_⟩
      refine ⟨fun _ h => absurd rfl h, ?_⟩
      refine ⟨fun _ _ _ => Rg.good_nil hre rfl rfl rfl, ?_⟩
      refine ⟨fun _ _ _ => Rg.good_field hre rfl rfl rfl (fun wx hC => by go_simp), ?_⟩
      refine ⟨fun _ _ h => absurd rfl h, ?_⟩
      exact trivial
    case hF =>
      rintro w2 ⟨hR2, hg2⟩
      have HR2 : Hid (Rdr w2 g a cap b ⟨(k : Int), e⟩) := hR2
      have HG2 : Hid (w.grownBy w2 (some g)) := (grown_tr ((Ex.drew w).grownBy _) hg2 : World.grownBy _ _ _)
      clear hR2 hg2
      simp only [Rg.later, Act.put, List.setIfInBounds_toArray, List.set_cons_succ, List.set_cons_zero]
      intro v1 h1 v2 h2 v3 h3 v4 h4
      have HV : Hid (IsRdA n64 r g v4 w2) := h4
      clear j0 j1 j2 h1 h2 h3 h4
      go_wp2_with fail
      go_ret
      exact ⟨_, rfl, HV.out, HR2.out, HG2.out⟩
  · have t1 : ((y : Int) == 0) = false := beq_eq_false_iff_ne.2 (by omega)
    have t2 : ((y : Int) != 0) = true := by simp [bne, t1]
    have HP : Hid (Ck.lruns b m wd ⟨at', y⟩ = ([], ⟨at', y⟩)) := Ck.lruns_y hy
    rw [HP.out]
    clear h
    go_enter Tryz.func81, Tryz.ntmps81
    go_wp2_with fail
    go_ret
    exact ⟨_, rfl, ⟨none, 0, rfl, Rd.nil _, fun h => absurd h (by simp)⟩, H.out, World.grownBy.refl _ _⟩
set_option maxHeartbeats 1000000 in
theorem count_is (g : Nat) (a : Option Addr) (cap : Nat) (b : List UInt8) (s : CS) (w : World) (h : Rdr w g a cap b s) :
    Calls Tryz.prog 82 #[.pointer (some ⟨g, 0, none⟩)] w fun x w' => x = .returned (.int .i64 ((Ck.lcnt b s).1 : Int)) ∧ Rdr w' g a cap b (Ck.lcnt b s).2 ∧ w.grownBy w' (some g) := by
  have hn := number_is g a cap b s w h
  have hlt := Ck.lnum_lt b s
  obtain ⟨⟨V, s1⟩, hV⟩ : ∃ x, Ck.lnum b s = x := ⟨_, rfl⟩
  have hC : Ck.lcnt b s = if 65536 < V then (0, Ck.refu 4 s1) else (V, s1) := by unfold Ck.lcnt; rw [hV]
  rw [hV] at hn hlt
  simp only at hn hlt
  have HN : Hid (Calls Tryz.prog 80 #[.pointer (some ⟨g, 0, none⟩)] w fun x w' => x = .returned (.int .u64 (V : Int)) ∧ Rdr w' g a cap b s1 ∧ w.grownBy w' (some g)) := hn
  clear hn h
  by_cases hV6 : 65536 < V
  · have t0 : decide ((V : Int) > 65536) = true := by simp; omega
    have t1 : (65536 : Int) < (V : Int) := by omega
    have t2 : 65536 < V := hV6
    have HC : Hid (Ck.lcnt b s = (0, Ck.refu 4 s1)) := (by rw [hC, if_pos hV6] : Ck.lcnt b s = (0, Ck.refu 4 s1))
    rw [HC.out]
    clear hC hV
    go_enter Tryz.func82, Tryz.ntmps82
    go_wp2_with fail
    go_at_call 80
    refine Calls.mono HN.out ?_
    rintro e1 w1 ⟨rfl, hR1, hg1⟩
    have HR1 : Hid (Rdr w1 g a cap b s1) := hR1
    have HG1 : Hid (w.grownBy w1 (some g)) := hg1
    clear hR1 hg1
    go_wp2_with fail
    go_at_call 89
    refine (refuse_is g a cap b s1 _ 4 w1 HR1.out rfl).mono ?_
    rintro e2 w2 ⟨rfl, hR2, hg2⟩
    have HR2 : Hid (Rdr w2 g a cap b (Ck.refu 4 s1)) := hR2
    have HG2 : Hid (w.grownBy w2 (some g)) := (grown_tr HG1.out hg2 : World.grownBy _ _ _)
    clear hR2 hg2
    go_wp2_with fail
    go_ret
    exact ⟨rfl, HR2.out, HG2.out⟩
  · have t1 : ¬ (65536 : Int) < (V : Int) := by omega
    have HC : Hid (Ck.lcnt b s = (V, s1)) := (by rw [hC, if_neg hV6] : Ck.lcnt b s = (V, s1))
    have hw : IntKind.i64.wrap (V : Int) = (V : Int) := by rw [IntKind.wrap_i64]; omega
    rw [HC.out]
    clear hC hV
    go_enter Tryz.func82, Tryz.ntmps82
    go_wp2_with fail
    go_at_call 80
    refine Calls.mono HN.out ?_
    rintro e1 w1 ⟨rfl, hR1, hg1⟩
    have HR1 : Hid (Rdr w1 g a cap b s1) := hR1
    have HG1 : Hid (w.grownBy w1 (some g)) := hg1
    clear hR1 hg1
    go_wp2_with fail
    go_ret
    exact ⟨rfl, HR1.out, HG1.out⟩
end Go.Proofs.YtnmonoafjijfhaaGreat
