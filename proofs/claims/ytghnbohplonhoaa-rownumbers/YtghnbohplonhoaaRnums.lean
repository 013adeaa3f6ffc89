/-
  Rows, cells and columns that are written out: each as one step of a region whose order is open; runes; a text that is cut.
-/
import Derived.Test.YtghnbohplonhoaaRknown
import Derived.Laws.Runes
namespace Go.Proofs.Ytghnbohplonhoaa
open Go.RowKit
set_option linter.unusedVariables false
set_option linter.unusedSimpArgs false
theorem encode_le (n : Int) : (Utf8.encode n).size ≤ 4 := by
  unfold Utf8.encode
  dsimp only
  generalize (if Utf8.valid n = true then n.toNat else Utf8.runeError) = c
  split
  · show 1 ≤ 4; omega
  · split
    · show 2 ≤ 4; omega
    · split
      · show 3 ≤ 4; omega
      · show 4 ≤ 4; omega
theorem rune_conv (n : Int) (w : World) : ∃ t : List UInt8, t.length ≤ 4 ∧ (convert 21 9 (.int .i32 n)).run Try.prog w = .ok (.string (str t)) w := by
  obtain ⟨t, ht⟩ := str_of (Utf8.encode n)
  refine ⟨t, ?_, ?_⟩
  · have h := encode_le n
    rw [ht, str_size] at h
    exact h
  · rw [run_convert_int_string w 21 9 .i32 n (by kernel_rfl) Try.underlying9, ht]
/-- The j-th small letter. -/
def ltr (j : Nat) : UInt8 := UInt8.ofNat (97 + j)
theorem rune_at {j : Nat} (hj : j < 12) (w : World) : (convert 21 9 (.int .i32 (97 + (j : Int)))).run Try.prog w = .ok (.string (str [ltr j])) w := by
  rw [run_convert_int_string w 21 9 .i32 _ (by kernel_rfl) Try.underlying9]
  have h : Utf8.encode (97 + (j : Int)) = str [ltr j] := by
    match j, hj with
    | 0, _ => rfl
    | 1, _ => rfl
    | 2, _ => rfl
    | 3, _ => rfl
    | 4, _ => rfl
    | 5, _ => rfl
    | 6, _ => rfl
    | 7, _ => rfl
    | 8, _ => rfl
    | 9, _ => rfl
    | 10, _ => rfl
    | 11, _ => rfl
  rw [h]
theorem cat_c (j : Nat) : ((⟨#[99]⟩ : ByteArray) ++ str [ltr j]) = str [99, ltr j] := rfl
/-- Cells; a row; rows: that can be read. -/
def IsCs (cs : List Ce) (v : Value) (w : World) : Prop := ∃ a c, v = .slice a cs.length c ∧ RdC w a c cs
def IsRwA (r : Rw) (v : Value) (w : World) : Prop := ∃ p cp, v = rvv ⟨r.t, r.q, p, r.c.length, cp⟩ ∧ RdC w p cp r.c
def IsSS (SS : List Rw) (v : Value) (w : World) : Prop := ∃ g, v = .slice (some ⟨g, 0, none⟩) 20 20 ∧ RdR w (some ⟨g, 0, none⟩) 20 SS
theorem IsCs.stands (cs : List Ce) : ∀ v w w', IsCs cs v w → Ex w w' → IsCs cs v w' := by
  rintro v w w' ⟨a, c, h1, h2⟩ hx
  exact ⟨a, c, h1, RdW.below h2 hx⟩
theorem IsRwA.stands (r : Rw) : ∀ v w w', IsRwA r v w → Ex w w' → IsRwA r v w' := by
  rintro v w w' ⟨p, cp, h1, h2⟩ hx
  exact ⟨p, cp, h1, RdW.below h2 hx⟩
theorem IsSS.stands (SS : List Rw) : ∀ v w w', IsSS SS v w → Ex w w' → IsSS SS v w' := by
  rintro v w w' ⟨g, h1, h2⟩ hx
  exact ⟨g, h1, h2.below hx⟩
theorem run_cs1 {o : Oper} (ρ : Operand → Value) (w : World) (x : Operand) (c : Ce) (ho : o.op = .buildSlice 23 1 #[(0, x)]) (h2 : ρ x = cv c) : (execOp ρ o).run Try.prog w = .ok (.value (.slice (some ⟨w.heap.size, 0, none⟩) 1 1)) (w.alloc (.cells (flat cc [c]).toArray 25)) := by
  simp [execOp, ho, h2, go_sem, cv, flat, cc]
theorem run_cs2 {o : Oper} (ρ : Operand → Value) (w : World) (x y : Operand) (c d : Ce) (ho : o.op = .buildSlice 23 2 #[(0, x), (1, y)]) (h2 : ρ x = cv c) (h3 : ρ y = cv d) : (execOp ρ o).run Try.prog w = .ok (.value (.slice (some ⟨w.heap.size, 0, none⟩) 2 2)) (w.alloc (.cells (flat cc [c, d]).toArray 25)) := by
  simp [execOp, ho, h2, h3, go_sem, cv, flat, cc]
set_option maxHeartbeats 8000000 in
set_option maxRecDepth 100000 in
theorem run_r20 {o : Oper} (ρ : Operand → Value) (w : World) (x0 x1 x2 x3 x4 x5 x6 x7 x8 x9 x10 x11 x12 x13 x14 x15 x16 x17 x18 x19 : Operand) (v0 v1 v2 v3 v4 v5 v6 v7 v8 v9 v10 v11 v12 v13 v14 v15 v16 v17 v18 v19 : RV) (ho : o.op = .buildSlice 31 20 #[(0, x0), (1, x1), (2, x2), (3, x3), (4, x4), (5, x5), (6, x6), (7, x7), (8, x8), (9, x9), (10, x10), (11, x11), (12, x12), (13, x13), (14, x14), (15, x15), (16, x16), (17, x17), (18, x18), (19, x19)])
    (h0 : ρ x0 = rvv v0) (h1 : ρ x1 = rvv v1) (h2 : ρ x2 = rvv v2) (h3 : ρ x3 = rvv v3) (h4 : ρ x4 = rvv v4) (h5 : ρ x5 = rvv v5) (h6 : ρ x6 = rvv v6) (h7 : ρ x7 = rvv v7) (h8 : ρ x8 = rvv v8) (h9 : ρ x9 = rvv v9) (h10 : ρ x10 = rvv v10) (h11 : ρ x11 = rvv v11) (h12 : ρ x12 = rvv v12) (h13 : ρ x13 = rvv v13) (h14 : ρ x14 = rvv v14) (h15 : ρ x15 = rvv v15) (h16 : ρ x16 = rvv v16) (h17 : ρ x17 = rvv v17) (h18 : ρ x18 = rvv v18) (h19 : ρ x19 = rvv v19) :
    (execOp ρ o).run Try.prog w = .ok (.value (.slice (some ⟨w.heap.size, 0, none⟩) 20 20)) (w.alloc (.cells (flat rc [v0, v1, v2, v3, v4, v5, v6, v7, v8, v9, v10, v11, v12, v13, v14, v15, v16, v17, v18, v19]).toArray 28)) := by
  simp [execOp, ho, h0, h1, h2, h3, h4, h5, h6, h7, h8, h9, h10, h11, h12, h13, h14, h15, h16, h17, h18, h19, go_sem, rvv, sv, flat, rc]
theorem EachR.cons {w : World} {v : RV} {r : Rw} {vs : List RV} {l : List Rw} (h : RvOk w v r) (h' : EachR w vs l) : EachR w (v :: vs) (r :: l) := EachR.append (EachR.one h) h'
namespace Rg
section
variable {ops : Array Oper} {specs : List Spec} {a0 : Act} {w1 : World} {o : Oper}
theorem good_cs1 {x : Operand} {c : Ce} (ho : o.op = .buildSlice 23 1 #[(0, x)]) (hg : guardV ops specs a0 o = some true) (hx : argS ops specs a0 x = .inl (cv c)) : GoodOp Try.prog ops specs a0 (Ex w1) Ex o (.inr (IsCs [c])) :=
  good_of hg fun Q a w hC hs => by
    have h1 := hs x (by rw [ho]; simp [Op.operands])
    rw [hx] at h1
    unfold Oper.wp
    rw [run_cs1 _ w x c ho h1]
    have hX : Ex w (w.alloc (.cells (flat cc [c]).toArray 25)) := (Below.refl _ _).alloc (Nat.le_refl _) _
    exact ⟨_, rfl, ⟨some ⟨w.heap.size, 0, none⟩, 1, rfl, RdW.laid (t := 25) cc_len w [c] (by simp)⟩, hX, hC.trans hX⟩
theorem good_cs2 {x y : Operand} {c d : Ce} (ho : o.op = .buildSlice 23 2 #[(0, x), (1, y)]) (hg : guardV ops specs a0 o = some true) (hx : argS ops specs a0 x = .inl (cv c)) (hy : argS ops specs a0 y = .inl (cv d)) : GoodOp Try.prog ops specs a0 (Ex w1) Ex o (.inr (IsCs [c, d])) :=
  good_of hg fun Q a w hC hs => by
    have h1 := hs x (by rw [ho]; simp [Op.operands])
    have h2 := hs y (by rw [ho]; simp [Op.operands])
    rw [hx] at h1
    rw [hy] at h2
    unfold Oper.wp
    rw [run_cs2 _ w x y c d ho h1 h2]
    have hX : Ex w (w.alloc (.cells (flat cc [c, d]).toArray 25)) := (Below.refl _ _).alloc (Nat.le_refl _) _
    exact ⟨_, rfl, ⟨some ⟨w.heap.size, 0, none⟩, 2, rfl, RdW.laid (t := 25) cc_len w [c, d] (by simp)⟩, hX, hC.trans hX⟩
/-- A row without cells. -/
theorem good_row0 {t q : Int} (hg : guardV ops specs a0 o = some true) (h : ∀ (a : Act) (w : World), (execOp a.eval o).run Try.prog w = .ok (.value (rvv ⟨t, q, none, 0, 0⟩)) w) : GoodOp Try.prog ops specs a0 (Ex w1) Ex o (.inr (IsRwA ⟨t, q, []⟩)) :=
  good_of hg fun Q a w hC hs => by
    unfold Oper.wp
    rw [h]
    exact ⟨_, rfl, ⟨none, 0, rfl, RdW.nil w⟩, Ex.refl _, hC⟩
set_option maxHeartbeats 8000000 in
set_option maxRecDepth 100000 in
theorem good_r20 {x0 x1 x2 x3 x4 x5 x6 x7 x8 x9 x10 x11 x12 x13 x14 x15 x16 x17 x18 x19 : Operand} {r0 r1 r2 r3 r4 r5 r6 r7 r8 r9 r10 r11 r12 r13 r14 r15 r16 r17 r18 r19 : Rw} (ho : o.op = .buildSlice 31 20 #[(0, x0), (1, x1), (2, x2), (3, x3), (4, x4), (5, x5), (6, x6), (7, x7), (8, x8), (9, x9), (10, x10), (11, x11), (12, x12), (13, x13), (14, x14), (15, x15), (16, x16), (17, x17), (18, x18), (19, x19)]) (hg : guardV ops specs a0 o = some true)
    (g0 : argS ops specs a0 x0 = .inr (IsRwA r0)) (g1 : argS ops specs a0 x1 = .inr (IsRwA r1)) (g2 : argS ops specs a0 x2 = .inr (IsRwA r2)) (g3 : argS ops specs a0 x3 = .inr (IsRwA r3)) (g4 : argS ops specs a0 x4 = .inr (IsRwA r4)) (g5 : argS ops specs a0 x5 = .inr (IsRwA r5)) (g6 : argS ops specs a0 x6 = .inr (IsRwA r6)) (g7 : argS ops specs a0 x7 = .inr (IsRwA r7)) (g8 : argS ops specs a0 x8 = .inr (IsRwA r8)) (g9 : argS ops specs a0 x9 = .inr (IsRwA r9)) (g10 : argS ops specs a0 x10 = .inr (IsRwA r10)) (g11 : argS ops specs a0 x11 = .inr (IsRwA r11)) (g12 : argS ops specs a0 x12 = .inr (IsRwA r12)) (g13 : argS ops specs a0 x13 = .inr (IsRwA r13)) (g14 : argS ops specs a0 x14 = .inr (IsRwA r14)) (g15 : argS ops specs a0 x15 = .inr (IsRwA r15)) (g16 : argS ops specs a0 x16 = .inr (IsRwA r16)) (g17 : argS ops specs a0 x17 = .inr (IsRwA r17)) (g18 : argS ops specs a0 x18 = .inr (IsRwA r18)) (g19 : argS ops specs a0 x19 = .inr (IsRwA r19)) : GoodOp Try.prog ops specs a0 (Ex w1) Ex o (.inr (IsSS [r0, r1, r2, r3, r4, r5, r6, r7, r8, r9, r10, r11, r12, r13, r14, r15, r16, r17, r18, r19])) :=
  good_of hg fun Q a w hC hs => by
    have q0 := hs x0 (by rw [ho]; simp [Op.operands])
    rw [g0] at q0
    obtain ⟨p0, c0, e0, b0⟩ := q0
    have q1 := hs x1 (by rw [ho]; simp [Op.operands])
    rw [g1] at q1
    obtain ⟨p1, c1, e1, b1⟩ := q1
    have q2 := hs x2 (by rw [ho]; simp [Op.operands])
    rw [g2] at q2
    obtain ⟨p2, c2, e2, b2⟩ := q2
    have q3 := hs x3 (by rw [ho]; simp [Op.operands])
    rw [g3] at q3
    obtain ⟨p3, c3, e3, b3⟩ := q3
    have q4 := hs x4 (by rw [ho]; simp [Op.operands])
    rw [g4] at q4
    obtain ⟨p4, c4, e4, b4⟩ := q4
    have q5 := hs x5 (by rw [ho]; simp [Op.operands])
    rw [g5] at q5
    obtain ⟨p5, c5, e5, b5⟩ := q5
    have q6 := hs x6 (by rw [ho]; simp [Op.operands])
    rw [g6] at q6
    obtain ⟨p6, c6, e6, b6⟩ := q6
    have q7 := hs x7 (by rw [ho]; simp [Op.operands])
    rw [g7] at q7
    obtain ⟨p7, c7, e7, b7⟩ := q7
    have q8 := hs x8 (by rw [ho]; simp [Op.operands])
    rw [g8] at q8
    obtain ⟨p8, c8, e8, b8⟩ := q8
    have q9 := hs x9 (by rw [ho]; simp [Op.operands])
    rw [g9] at q9
    obtain ⟨p9, c9, e9, b9⟩ := q9
    have q10 := hs x10 (by rw [ho]; simp [Op.operands])
    rw [g10] at q10
    obtain ⟨p10, c10, e10, b10⟩ := q10
    have q11 := hs x11 (by rw [ho]; simp [Op.operands])
    rw [g11] at q11
    obtain ⟨p11, c11, e11, b11⟩ := q11
    have q12 := hs x12 (by rw [ho]; simp [Op.operands])
    rw [g12] at q12
    obtain ⟨p12, c12, e12, b12⟩ := q12
    have q13 := hs x13 (by rw [ho]; simp [Op.operands])
    rw [g13] at q13
    obtain ⟨p13, c13, e13, b13⟩ := q13
    have q14 := hs x14 (by rw [ho]; simp [Op.operands])
    rw [g14] at q14
    obtain ⟨p14, c14, e14, b14⟩ := q14
    have q15 := hs x15 (by rw [ho]; simp [Op.operands])
    rw [g15] at q15
    obtain ⟨p15, c15, e15, b15⟩ := q15
    have q16 := hs x16 (by rw [ho]; simp [Op.operands])
    rw [g16] at q16
    obtain ⟨p16, c16, e16, b16⟩ := q16
    have q17 := hs x17 (by rw [ho]; simp [Op.operands])
    rw [g17] at q17
    obtain ⟨p17, c17, e17, b17⟩ := q17
    have q18 := hs x18 (by rw [ho]; simp [Op.operands])
    rw [g18] at q18
    obtain ⟨p18, c18, e18, b18⟩ := q18
    have q19 := hs x19 (by rw [ho]; simp [Op.operands])
    rw [g19] at q19
    obtain ⟨p19, c19, e19, b19⟩ := q19
    have hr := run_r20 a.eval w x0 x1 x2 x3 x4 x5 x6 x7 x8 x9 x10 x11 x12 x13 x14 x15 x16 x17 x18 x19 _ _ _ _ _ _ _ _ _ _ _ _ _ _ _ _ _ _ _ _ ho e0 e1 e2 e3 e4 e5 e6 e7 e8 e9 e10 e11 e12 e13 e14 e15 e16 e17 e18 e19
    unfold Oper.wp
    rw [hr]
    have hX : Ex w (w.alloc (.cells (flat rc [⟨r0.t, r0.q, p0, r0.c.length, c0⟩, ⟨r1.t, r1.q, p1, r1.c.length, c1⟩, ⟨r2.t, r2.q, p2, r2.c.length, c2⟩, ⟨r3.t, r3.q, p3, r3.c.length, c3⟩, ⟨r4.t, r4.q, p4, r4.c.length, c4⟩, ⟨r5.t, r5.q, p5, r5.c.length, c5⟩, ⟨r6.t, r6.q, p6, r6.c.length, c6⟩, ⟨r7.t, r7.q, p7, r7.c.length, c7⟩, ⟨r8.t, r8.q, p8, r8.c.length, c8⟩, ⟨r9.t, r9.q, p9, r9.c.length, c9⟩, ⟨r10.t, r10.q, p10, r10.c.length, c10⟩, ⟨r11.t, r11.q, p11, r11.c.length, c11⟩, ⟨r12.t, r12.q, p12, r12.c.length, c12⟩, ⟨r13.t, r13.q, p13, r13.c.length, c13⟩, ⟨r14.t, r14.q, p14, r14.c.length, c14⟩, ⟨r15.t, r15.q, p15, r15.c.length, c15⟩, ⟨r16.t, r16.q, p16, r16.c.length, c16⟩, ⟨r17.t, r17.q, p17, r17.c.length, c17⟩, ⟨r18.t, r18.q, p18, r18.c.length, c18⟩, ⟨r19.t, r19.q, p19, r19.c.length, c19⟩]).toArray 28)) := (Below.refl _ _).alloc (Nat.le_refl _) _
    refine ⟨_, rfl, ⟨w.heap.size, rfl, [⟨r0.t, r0.q, p0, r0.c.length, c0⟩, ⟨r1.t, r1.q, p1, r1.c.length, c1⟩, ⟨r2.t, r2.q, p2, r2.c.length, c2⟩, ⟨r3.t, r3.q, p3, r3.c.length, c3⟩, ⟨r4.t, r4.q, p4, r4.c.length, c4⟩, ⟨r5.t, r5.q, p5, r5.c.length, c5⟩, ⟨r6.t, r6.q, p6, r6.c.length, c6⟩, ⟨r7.t, r7.q, p7, r7.c.length, c7⟩, ⟨r8.t, r8.q, p8, r8.c.length, c8⟩, ⟨r9.t, r9.q, p9, r9.c.length, c9⟩, ⟨r10.t, r10.q, p10, r10.c.length, c10⟩, ⟨r11.t, r11.q, p11, r11.c.length, c11⟩, ⟨r12.t, r12.q, p12, r12.c.length, c12⟩, ⟨r13.t, r13.q, p13, r13.c.length, c13⟩, ⟨r14.t, r14.q, p14, r14.c.length, c14⟩, ⟨r15.t, r15.q, p15, r15.c.length, c15⟩, ⟨r16.t, r16.q, p16, r16.c.length, c16⟩, ⟨r17.t, r17.q, p17, r17.c.length, c17⟩, ⟨r18.t, r18.q, p18, r18.c.length, c18⟩, ⟨r19.t, r19.q, p19, r19.c.length, c19⟩], RdW.laid (t := 28) rc_len w [⟨r0.t, r0.q, p0, r0.c.length, c0⟩, ⟨r1.t, r1.q, p1, r1.c.length, c1⟩, ⟨r2.t, r2.q, p2, r2.c.length, c2⟩, ⟨r3.t, r3.q, p3, r3.c.length, c3⟩, ⟨r4.t, r4.q, p4, r4.c.length, c4⟩, ⟨r5.t, r5.q, p5, r5.c.length, c5⟩, ⟨r6.t, r6.q, p6, r6.c.length, c6⟩, ⟨r7.t, r7.q, p7, r7.c.length, c7⟩, ⟨r8.t, r8.q, p8, r8.c.length, c8⟩, ⟨r9.t, r9.q, p9, r9.c.length, c9⟩, ⟨r10.t, r10.q, p10, r10.c.length, c10⟩, ⟨r11.t, r11.q, p11, r11.c.length, c11⟩, ⟨r12.t, r12.q, p12, r12.c.length, c12⟩, ⟨r13.t, r13.q, p13, r13.c.length, c13⟩, ⟨r14.t, r14.q, p14, r14.c.length, c14⟩, ⟨r15.t, r15.q, p15, r15.c.length, c15⟩, ⟨r16.t, r16.q, p16, r16.c.length, c16⟩, ⟨r17.t, r17.q, p17, r17.c.length, c17⟩, ⟨r18.t, r18.q, p18, r18.c.length, c18⟩, ⟨r19.t, r19.q, p19, r19.c.length, c19⟩] (by simp), ?_⟩, hX, hC.trans hX⟩
    exact EachR.cons ⟨rfl, rfl, rfl, RdW.below b0 hX⟩ (EachR.cons ⟨rfl, rfl, rfl, RdW.below b1 hX⟩ (EachR.cons ⟨rfl, rfl, rfl, RdW.below b2 hX⟩ (EachR.cons ⟨rfl, rfl, rfl, RdW.below b3 hX⟩ (EachR.cons ⟨rfl, rfl, rfl, RdW.below b4 hX⟩ (EachR.cons ⟨rfl, rfl, rfl, RdW.below b5 hX⟩ (EachR.cons ⟨rfl, rfl, rfl, RdW.below b6 hX⟩ (EachR.cons ⟨rfl, rfl, rfl, RdW.below b7 hX⟩ (EachR.cons ⟨rfl, rfl, rfl, RdW.below b8 hX⟩ (EachR.cons ⟨rfl, rfl, rfl, RdW.below b9 hX⟩ (EachR.cons ⟨rfl, rfl, rfl, RdW.below b10 hX⟩ (EachR.cons ⟨rfl, rfl, rfl, RdW.below b11 hX⟩ (EachR.cons ⟨rfl, rfl, rfl, RdW.below b12 hX⟩ (EachR.cons ⟨rfl, rfl, rfl, RdW.below b13 hX⟩ (EachR.cons ⟨rfl, rfl, rfl, RdW.below b14 hX⟩ (EachR.cons ⟨rfl, rfl, rfl, RdW.below b15 hX⟩ (EachR.cons ⟨rfl, rfl, rfl, RdW.below b16 hX⟩ (EachR.cons ⟨rfl, rfl, rfl, RdW.below b17 hX⟩ (EachR.cons ⟨rfl, rfl, rfl, RdW.below b18 hX⟩ (EachR.cons ⟨rfl, rfl, rfl, RdW.below b19 hX⟩ ((EachR.nil _)))))))))))))))))))))
end
end Rg
def IsK1 (c : Co) (v : Value) (w : World) : Prop := ∃ g, v = .slice (some ⟨g, 0, none⟩) 1 1 ∧ RdK w (some ⟨g, 0, none⟩) 1 [c]
theorem IsK1.stands (c : Co) : ∀ v w w', IsK1 c v w → Ex w w' → IsK1 c v w' := by
  rintro v w w' ⟨g, h1, h2⟩ hx
  exact ⟨g, h1, RdW.below h2 hx⟩
theorem run_k1 {o : Oper} (ρ : Operand → Value) (w : World) (x : Operand) (c : Co) (ho : o.op = .buildSlice 44 1 #[(0, x)]) (h2 : ρ x = kv c) : (execOp ρ o).run Try.prog w = .ok (.value (.slice (some ⟨w.heap.size, 0, none⟩) 1 1)) (w.alloc (.cells (flat kc [c]).toArray 46)) := by
  simp [execOp, ho, h2, go_sem, kv, flat, kc]
theorem Rg.good_k1 {ops : Array Oper} {specs : List Rg.Spec} {a0 : Act} {w1 : World} {o : Oper} {x : Operand} {c : Co} (ho : o.op = .buildSlice 44 1 #[(0, x)]) (hg : Rg.guardV ops specs a0 o = some true) (hx : Rg.argS ops specs a0 x = .inl (kv c)) : Rg.GoodOp Try.prog ops specs a0 (Ex w1) Ex o (.inr (IsK1 c)) :=
  Rg.good_of hg fun Q a w hC hs => by
    have h1 := hs x (by rw [ho]; simp [Op.operands])
    rw [hx] at h1
    unfold Oper.wp
    rw [run_k1 _ w x c ho h1]
    have hX : Ex w (w.alloc (.cells (flat kc [c]).toArray 46)) := (Below.refl _ _).alloc (Nat.le_refl _) _
    exact ⟨_, rfl, ⟨w.heap.size, rfl, RdW.laid (t := 46) kc_len w [c] (by simp)⟩, hX, hC.trans hX⟩
theorem cols_row {w1 wx : World} {c : Co} {v : Value} (hl : c.nm.length ≤ maxLen ∧ In64 c.k) (o : Bool) (ho : Rw.colsOk [c] = o) (hv : IsK1 c v wx) (hC : Ex w1 wx) :
    Calls Try.prog 21 #[v] wx fun e w' => ∃ u, e = .returned u ∧ Rg.Spec.ok (.inl (.bool o)) u w' ∧ Ex wx w' ∧ Ex w1 w' := by
  obtain ⟨g, rfl, hr⟩ := hv
  refine (f_cols _ 1 1 [c] wx rfl hr (fun d hd => by rw [List.mem_singleton.1 hd]; exact hl) o ho).mono ?_
  rintro e w' ⟨rfl, hx⟩
  exact ⟨_, rfl, rfl, hx, hC.trans hx⟩
theorem at_rowA {w1 wx : World} {t q : Int} {cs : List Ce} {v : Value} (hl : cs.length ≤ 1000) (hv : IsCs cs v wx) (hC : Ex w1 wx) :
    Calls Try.prog 10 #[.int .i64 t, .int .i64 q, v] wx fun e w' => ∃ u, e = .returned u ∧ Rg.Spec.ok (.inr (IsRwA ⟨t, q, cs⟩)) u w' ∧ Ex wx w' ∧ Ex w1 w' := by
  obtain ⟨a, c, rfl, hr⟩ := hv
  refine (at_is t q a cs.length c cs wx rfl hr (by omega)).mono ?_
  rintro e w' ⟨⟨p, n, cp⟩, rfl, hn, ho, hx⟩
  simp only at hn
  subst hn
  obtain ⟨a', cp', hv, hrd⟩ := ho.rd cc_len
  simp only [sv, Value.slice.injEq] at hv
  obtain ⟨rfl, _, rfl⟩ := hv
  exact ⟨_, rfl, ⟨p, cp, rfl, hrd⟩, hx, hC.trans hx⟩
set_option maxHeartbeats 4000000 in
theorem nine_laid (wr : World) : ∃ WT, (((((((((wr.alloc (Obj.cells #[Value.int IntKind.u8 0, Value.int IntKind.u8 0, Value.int IntKind.u8 9] 5)).alloc (Obj.cells #[Value.int IntKind.u8 0, Value.int IntKind.u8 0, Value.int IntKind.u8 1] 5)).alloc (Obj.cells #[Value.int IntKind.u8 0, Value.int IntKind.u8 129, Value.int IntKind.u8 128, Value.int IntKind.u8 128, Value.int IntKind.u8 128, Value.int IntKind.u8 4, Value.int IntKind.u8 0] 5)).alloc (Obj.cells #[Value.int IntKind.u8 0, Value.int IntKind.u8 0, Value.int IntKind.u8 1, Value.int IntKind.u8 13] 5)).alloc (Obj.cells #[Value.int IntKind.u8 0, Value.int IntKind.u8 0, Value.int IntKind.u8 1, Value.int IntKind.u8 1, Value.int IntKind.u8 97, Value.int IntKind.u8 3] 5)).alloc (Obj.cells #[Value.int IntKind.u8 0, Value.int IntKind.u8 0, Value.int IntKind.u8 1, Value.int IntKind.u8 1, Value.int IntKind.u8 97, Value.int IntKind.u8 2, Value.int IntKind.u8 41] 5)).alloc (Obj.cells #[Value.int IntKind.u8 0, Value.int IntKind.u8 0, Value.int IntKind.u8 2, Value.int IntKind.u8 1, Value.int IntKind.u8 98, Value.int IntKind.u8 1, Value.int IntKind.u8 0, Value.int IntKind.u8 1, Value.int IntKind.u8 97, Value.int IntKind.u8 1, Value.int IntKind.u8 0] 5)).alloc (Obj.cells #[Value.int IntKind.u8 0, Value.int IntKind.u8 0, Value.int IntKind.u8 1, Value.int IntKind.u8 1, Value.int IntKind.u8 65, Value.int IntKind.u8 1, Value.int IntKind.u8 0] 5)).alloc (Obj.cells #[Value.int IntKind.u8 0, Value.int IntKind.u8 0, Value.int IntKind.u8 1, Value.int IntKind.u8 1, Value.int IntKind.u8 97, Value.int IntKind.u8 1, Value.int IntKind.u8 0, Value.int IntKind.u8 7] 5)).alloc (Obj.cells #[Value.slice (some ⟨wr.heap.size, 0, none⟩) 3 3, Value.slice (some ⟨wr.heap.size + 1, 0, none⟩) 3 3, Value.slice (some ⟨wr.heap.size + 1 + 1, 0, none⟩) 7 7, Value.slice (some ⟨wr.heap.size + 1 + 1 + 1, 0, none⟩) 4 4, Value.slice (some ⟨wr.heap.size + 1 + 1 + 1 + 1, 0, none⟩) 6 6, Value.slice (some ⟨wr.heap.size + 1 + 1 + 1 + 1 + 1, 0, none⟩) 7 7, Value.slice (some ⟨wr.heap.size + 1 + 1 + 1 + 1 + 1 + 1, 0, none⟩) 11 11, Value.slice (some ⟨wr.heap.size + 1 + 1 + 1 + 1 + 1 + 1 + 1, 0, none⟩) 7 7, Value.slice (some ⟨wr.heap.size + 1 + 1 + 1 + 1 + 1 + 1 + 1 + 1, 0, none⟩) 8 8] 22) = WT ∧ Ex wr WT ∧ ∀ j, j < 9 → ∃ g l, WT.cell? ⟨wr.heap.size + 1 + 1 + 1 + 1 + 1 + 1 + 1 + 1 + 1, j, none⟩ = some (.slice (some ⟨g, 0, none⟩) (List.length l) (List.length l)) ∧ Byt WT (some ⟨g, 0, none⟩) (List.length l) l ∧ l.length ≤ 11 := by
  obtain ⟨W1, h1⟩ : ∃ W, wr.alloc (Obj.cells #[Value.int IntKind.u8 0, Value.int IntKind.u8 0, Value.int IntKind.u8 9] 5) = W := ⟨_, rfl⟩
  have s1 : W1.heap.size = wr.heap.size + 1 := by rw [← h1]; simp
  have x1 : Ex wr W1 := by rw [← h1]; exact (Below.refl _ _).alloc (Nat.le_refl _) _
  have b1 : RowAt (fun b : UInt8 => .int .u8 (b.toNat : Int)) 5 W1 (wr.heap.size) [0, 0, 9] := by
    rw [← h1]
    exact heap_alloc_new wr _
  obtain ⟨W2, h2⟩ : ∃ W, W1.alloc (Obj.cells #[Value.int IntKind.u8 0, Value.int IntKind.u8 0, Value.int IntKind.u8 1] 5) = W := ⟨_, rfl⟩
  have s2 : W2.heap.size = wr.heap.size + 1 + 1 := by rw [← h2]; simp [s1]
  have x2 : Ex W1 W2 := by rw [← h2]; exact (Below.refl _ _).alloc (Nat.le_refl _) _
  have b2 : RowAt (fun b : UInt8 => .int .u8 (b.toNat : Int)) 5 W2 (wr.heap.size + 1) [0, 0, 1] := by
    rw [← h2, ← s1]
    exact heap_alloc_new W1 _
  obtain ⟨W3, h3⟩ : ∃ W, W2.alloc (Obj.cells #[Value.int IntKind.u8 0, Value.int IntKind.u8 129, Value.int IntKind.u8 128, Value.int IntKind.u8 128, Value.int IntKind.u8 128, Value.int IntKind.u8 4, Value.int IntKind.u8 0] 5) = W := ⟨_, rfl⟩
  have s3 : W3.heap.size = wr.heap.size + 1 + 1 + 1 := by rw [← h3]; simp [s2]
  have x3 : Ex W2 W3 := by rw [← h3]; exact (Below.refl _ _).alloc (Nat.le_refl _) _
  have b3 : RowAt (fun b : UInt8 => .int .u8 (b.toNat : Int)) 5 W3 (wr.heap.size + 1 + 1) [0, 129, 128, 128, 128, 4, 0] := by
    rw [← h3, ← s2]
    exact heap_alloc_new W2 _
  obtain ⟨W4, h4⟩ : ∃ W, W3.alloc (Obj.cells #[Value.int IntKind.u8 0, Value.int IntKind.u8 0, Value.int IntKind.u8 1, Value.int IntKind.u8 13] 5) = W := ⟨_, rfl⟩
  have s4 : W4.heap.size = wr.heap.size + 1 + 1 + 1 + 1 := by rw [← h4]; simp [s3]
  have x4 : Ex W3 W4 := by rw [← h4]; exact (Below.refl _ _).alloc (Nat.le_refl _) _
  have b4 : RowAt (fun b : UInt8 => .int .u8 (b.toNat : Int)) 5 W4 (wr.heap.size + 1 + 1 + 1) [0, 0, 1, 13] := by
    rw [← h4, ← s3]
    exact heap_alloc_new W3 _
  obtain ⟨W5, h5⟩ : ∃ W, W4.alloc (Obj.cells #[Value.int IntKind.u8 0, Value.int IntKind.u8 0, Value.int IntKind.u8 1, Value.int IntKind.u8 1, Value.int IntKind.u8 97, Value.int IntKind.u8 3] 5) = W := ⟨_, rfl⟩
  have s5 : W5.heap.size = wr.heap.size + 1 + 1 + 1 + 1 + 1 := by rw [← h5]; simp [s4]
  have x5 : Ex W4 W5 := by rw [← h5]; exact (Below.refl _ _).alloc (Nat.le_refl _) _
  have b5 : RowAt (fun b : UInt8 => .int .u8 (b.toNat : Int)) 5 W5 (wr.heap.size + 1 + 1 + 1 + 1) [0, 0, 1, 1, 97, 3] := by
    rw [← h5, ← s4]
    exact heap_alloc_new W4 _
  obtain ⟨W6, h6⟩ : ∃ W, W5.alloc (Obj.cells #[Value.int IntKind.u8 0, Value.int IntKind.u8 0, Value.int IntKind.u8 1, Value.int IntKind.u8 1, Value.int IntKind.u8 97, Value.int IntKind.u8 2, Value.int IntKind.u8 41] 5) = W := ⟨_, rfl⟩
  have s6 : W6.heap.size = wr.heap.size + 1 + 1 + 1 + 1 + 1 + 1 := by rw [← h6]; simp [s5]
  have x6 : Ex W5 W6 := by rw [← h6]; exact (Below.refl _ _).alloc (Nat.le_refl _) _
  have b6 : RowAt (fun b : UInt8 => .int .u8 (b.toNat : Int)) 5 W6 (wr.heap.size + 1 + 1 + 1 + 1 + 1) [0, 0, 1, 1, 97, 2, 41] := by
    rw [← h6, ← s5]
    exact heap_alloc_new W5 _
  obtain ⟨W7, h7⟩ : ∃ W, W6.alloc (Obj.cells #[Value.int IntKind.u8 0, Value.int IntKind.u8 0, Value.int IntKind.u8 2, Value.int IntKind.u8 1, Value.int IntKind.u8 98, Value.int IntKind.u8 1, Value.int IntKind.u8 0, Value.int IntKind.u8 1, Value.int IntKind.u8 97, Value.int IntKind.u8 1, Value.int IntKind.u8 0] 5) = W := ⟨_, rfl⟩
  have s7 : W7.heap.size = wr.heap.size + 1 + 1 + 1 + 1 + 1 + 1 + 1 := by rw [← h7]; simp [s6]
  have x7 : Ex W6 W7 := by rw [← h7]; exact (Below.refl _ _).alloc (Nat.le_refl _) _
  have b7 : RowAt (fun b : UInt8 => .int .u8 (b.toNat : Int)) 5 W7 (wr.heap.size + 1 + 1 + 1 + 1 + 1 + 1) [0, 0, 2, 1, 98, 1, 0, 1, 97, 1, 0] := by
    rw [← h7, ← s6]
    exact heap_alloc_new W6 _
  obtain ⟨W8, h8⟩ : ∃ W, W7.alloc (Obj.cells #[Value.int IntKind.u8 0, Value.int IntKind.u8 0, Value.int IntKind.u8 1, Value.int IntKind.u8 1, Value.int IntKind.u8 65, Value.int IntKind.u8 1, Value.int IntKind.u8 0] 5) = W := ⟨_, rfl⟩
  have s8 : W8.heap.size = wr.heap.size + 1 + 1 + 1 + 1 + 1 + 1 + 1 + 1 := by rw [← h8]; simp [s7]
  have x8 : Ex W7 W8 := by rw [← h8]; exact (Below.refl _ _).alloc (Nat.le_refl _) _
  have b8 : RowAt (fun b : UInt8 => .int .u8 (b.toNat : Int)) 5 W8 (wr.heap.size + 1 + 1 + 1 + 1 + 1 + 1 + 1) [0, 0, 1, 1, 65, 1, 0] := by
    rw [← h8, ← s7]
    exact heap_alloc_new W7 _
  obtain ⟨W9, h9⟩ : ∃ W, W8.alloc (Obj.cells #[Value.int IntKind.u8 0, Value.int IntKind.u8 0, Value.int IntKind.u8 1, Value.int IntKind.u8 1, Value.int IntKind.u8 97, Value.int IntKind.u8 1, Value.int IntKind.u8 0, Value.int IntKind.u8 7] 5) = W := ⟨_, rfl⟩
  have s9 : W9.heap.size = wr.heap.size + 1 + 1 + 1 + 1 + 1 + 1 + 1 + 1 + 1 := by rw [← h9]; simp [s8]
  have x9 : Ex W8 W9 := by rw [← h9]; exact (Below.refl _ _).alloc (Nat.le_refl _) _
  have b9 : RowAt (fun b : UInt8 => .int .u8 (b.toNat : Int)) 5 W9 (wr.heap.size + 1 + 1 + 1 + 1 + 1 + 1 + 1 + 1) [0, 0, 1, 1, 97, 1, 0, 7] := by
    rw [← h9, ← s8]
    exact heap_alloc_new W8 _
  obtain ⟨WT, hT⟩ : ∃ W, W9.alloc (Obj.cells #[Value.slice (some ⟨wr.heap.size, 0, none⟩) 3 3, Value.slice (some ⟨wr.heap.size + 1, 0, none⟩) 3 3, Value.slice (some ⟨wr.heap.size + 1 + 1, 0, none⟩) 7 7, Value.slice (some ⟨wr.heap.size + 1 + 1 + 1, 0, none⟩) 4 4, Value.slice (some ⟨wr.heap.size + 1 + 1 + 1 + 1, 0, none⟩) 6 6, Value.slice (some ⟨wr.heap.size + 1 + 1 + 1 + 1 + 1, 0, none⟩) 7 7, Value.slice (some ⟨wr.heap.size + 1 + 1 + 1 + 1 + 1 + 1, 0, none⟩) 11 11, Value.slice (some ⟨wr.heap.size + 1 + 1 + 1 + 1 + 1 + 1 + 1, 0, none⟩) 7 7, Value.slice (some ⟨wr.heap.size + 1 + 1 + 1 + 1 + 1 + 1 + 1 + 1, 0, none⟩) 8 8] 22) = W := ⟨_, rfl⟩
  have xT : Ex W9 WT := by rw [← hT]; exact (Below.refl _ _).alloc (Nat.le_refl _) _
  have hblk : WT.heap[wr.heap.size + 1 + 1 + 1 + 1 + 1 + 1 + 1 + 1 + 1]? = some (Obj.cells #[Value.slice (some ⟨wr.heap.size, 0, none⟩) 3 3, Value.slice (some ⟨wr.heap.size + 1, 0, none⟩) 3 3, Value.slice (some ⟨wr.heap.size + 1 + 1, 0, none⟩) 7 7, Value.slice (some ⟨wr.heap.size + 1 + 1 + 1, 0, none⟩) 4 4, Value.slice (some ⟨wr.heap.size + 1 + 1 + 1 + 1, 0, none⟩) 6 6, Value.slice (some ⟨wr.heap.size + 1 + 1 + 1 + 1 + 1, 0, none⟩) 7 7, Value.slice (some ⟨wr.heap.size + 1 + 1 + 1 + 1 + 1 + 1, 0, none⟩) 11 11, Value.slice (some ⟨wr.heap.size + 1 + 1 + 1 + 1 + 1 + 1 + 1, 0, none⟩) 7 7, Value.slice (some ⟨wr.heap.size + 1 + 1 + 1 + 1 + 1 + 1 + 1 + 1, 0, none⟩) 8 8] 22 (0, 0)) := by rw [← hT, ← s9]; exact heap_alloc_new W9 _
  have hcel : ∀ k, WT.cell? ⟨wr.heap.size + 1 + 1 + 1 + 1 + 1 + 1 + 1 + 1 + 1, k, none⟩ = [Value.slice (some ⟨wr.heap.size, 0, none⟩) 3 3, Value.slice (some ⟨wr.heap.size + 1, 0, none⟩) 3 3, Value.slice (some ⟨wr.heap.size + 1 + 1, 0, none⟩) 7 7, Value.slice (some ⟨wr.heap.size + 1 + 1 + 1, 0, none⟩) 4 4, Value.slice (some ⟨wr.heap.size + 1 + 1 + 1 + 1, 0, none⟩) 6 6, Value.slice (some ⟨wr.heap.size + 1 + 1 + 1 + 1 + 1, 0, none⟩) 7 7, Value.slice (some ⟨wr.heap.size + 1 + 1 + 1 + 1 + 1 + 1, 0, none⟩) 11 11, Value.slice (some ⟨wr.heap.size + 1 + 1 + 1 + 1 + 1 + 1 + 1, 0, none⟩) 7 7, Value.slice (some ⟨wr.heap.size + 1 + 1 + 1 + 1 + 1 + 1 + 1 + 1, 0, none⟩) 8 8][k]? := fun k => by
    rw [cell_of_row WT _ k _ 22 (0, 0) hblk, List.getElem?_toArray]
  refine ⟨WT, by rw [h1, h2, h3, h4, h5, h6, h7, h8, h9, hT], x1.trans (x2.trans (x3.trans (x4.trans (x5.trans (x6.trans (x7.trans (x8.trans (x9.trans xT)))))))), fun j hj => ?_⟩
  match j, hj with
  | 0, _ => exact ⟨wr.heap.size, [0, 0, 9], hcel 0, RowAt.byt (n := 3) (RowAt.below b1 (x2.trans (x3.trans (x4.trans (x5.trans (x6.trans (x7.trans (x8.trans (x9.trans xT))))))))) rfl (by omega), by simp⟩
  | 1, _ => exact ⟨wr.heap.size + 1, [0, 0, 1], hcel 1, RowAt.byt (n := 3) (RowAt.below b2 (x3.trans (x4.trans (x5.trans (x6.trans (x7.trans (x8.trans (x9.trans xT)))))))) rfl (by omega), by simp⟩
  | 2, _ => exact ⟨wr.heap.size + 1 + 1, [0, 129, 128, 128, 128, 4, 0], hcel 2, RowAt.byt (n := 7) (RowAt.below b3 (x4.trans (x5.trans (x6.trans (x7.trans (x8.trans (x9.trans xT))))))) rfl (by omega), by simp⟩
  | 3, _ => exact ⟨wr.heap.size + 1 + 1 + 1, [0, 0, 1, 13], hcel 3, RowAt.byt (n := 4) (RowAt.below b4 (x5.trans (x6.trans (x7.trans (x8.trans (x9.trans xT)))))) rfl (by omega), by simp⟩
  | 4, _ => exact ⟨wr.heap.size + 1 + 1 + 1 + 1, [0, 0, 1, 1, 97, 3], hcel 4, RowAt.byt (n := 6) (RowAt.below b5 (x6.trans (x7.trans (x8.trans (x9.trans xT))))) rfl (by omega), by simp⟩
  | 5, _ => exact ⟨wr.heap.size + 1 + 1 + 1 + 1 + 1, [0, 0, 1, 1, 97, 2, 41], hcel 5, RowAt.byt (n := 7) (RowAt.below b6 (x7.trans (x8.trans (x9.trans xT)))) rfl (by omega), by simp⟩
  | 6, _ => exact ⟨wr.heap.size + 1 + 1 + 1 + 1 + 1 + 1, [0, 0, 2, 1, 98, 1, 0, 1, 97, 1, 0], hcel 6, RowAt.byt (n := 11) (RowAt.below b7 (x8.trans (x9.trans xT))) rfl (by omega), by simp⟩
  | 7, _ => exact ⟨wr.heap.size + 1 + 1 + 1 + 1 + 1 + 1 + 1, [0, 0, 1, 1, 65, 1, 0], hcel 7, RowAt.byt (n := 7) (RowAt.below b8 (x9.trans xT)) rfl (by omega), by simp⟩
  | 8, _ => exact ⟨wr.heap.size + 1 + 1 + 1 + 1 + 1 + 1 + 1 + 1, [0, 0, 1, 1, 97, 1, 0, 7], hcel 8, RowAt.byt (n := 8) (RowAt.below b9 xT) rfl (by omega), by simp⟩
/-- Columns with the names ca, cb .. -/
def tw (j : Nat) : List Co := (List.range j).map fun k => ⟨[99, ltr k], 1 + ((k % 2 : Nat) : Int)⟩
theorem tw_succ (j : Nat) : tw (j + 1) = tw j ++ [⟨[99, ltr j], 1 + ((j % 2 : Nat) : Int)⟩] := by
  unfold tw
  rw [List.range_succ, List.map_append]
  rfl
theorem tw_len (j : Nat) : (tw j).length = j := by simp [tw]
theorem tw_ok (j : Nat) : ∀ c ∈ tw j, c.nm.length ≤ maxLen ∧ In64 c.k := by
  intro c hc
  obtain ⟨k, _, rfl⟩ := List.mem_map.1 hc
  exact ⟨by simp [maxLen], ⟨by simp only; omega, by simp only; omega⟩⟩
theorem tw_grow : Rw.grow (tw 12) [⟨0, 0, [⟨[99, 97], 1, 1, []⟩]⟩, ⟨0, 0, [⟨[122], 1, 1, []⟩]⟩] = ([], 4, 1) := by rfl
theorem tw_same : Rw.grow (tw 12) [] = (tw 12, 0, 0) := by rfl

end Go.Proofs.Ytghnbohplonhoaa
