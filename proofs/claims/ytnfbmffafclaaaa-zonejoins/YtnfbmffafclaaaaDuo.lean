/-
  'z.MinN, z.MaxN = min(a.MinN, b.MinN), max(a.MaxN, b.MaxN)', and the like of texts: a region of fourteen operations whose order is open; a, b, z zones in blocks of their own.
-/
import Derived.Test.YtnfbmffafclaaaaRfree
import Derived.Test.YtnfbmffafclaaaaZres
import Derived.Test.YtnfbmffafclaaaaZtog
namespace Go.Proofs.Ytnfbmffafclaaaa
open Go.RowKit
set_option linter.unusedVariables false
set_option linter.unusedSimpArgs false
/-- Go's 'min' of two texts. -/
theorem run_min_txt {P : Program} (w : World) (ts : Array TypeId) (t : TypeId) (x y : List UInt8) : (Builtin.min_ ts t #[.string (str x), .string (str y)]).run P w = .ok (.string (str (if T.lt y x = true then y else x))) w := by
  have h := le_form x y
  cases hl : T.lt y x <;> simp [hl] at h <;> simp [Builtin.min_, Builtin.min2, Op.stringOp, asBool, str_toList, h]
/-- .. and 'max'. -/
theorem run_max_txt {P : Program} (w : World) (ts : Array TypeId) (t : TypeId) (x y : List UInt8) : (Builtin.max_ ts t #[.string (str x), .string (str y)]).run P w = .ok (.string (str (if T.lt x y = true then y else x))) w := by
  cases hl : Op.bytesLess x y <;> simp [Builtin.max_, Builtin.max2, Op.stringOp, asBool, str_toList, T.lt, hl]
namespace Rg.Fr
/-- A number, or a text. -/
def IsV (ty : TypeId) (v : Value) : Prop := (ty = 2 ∧ ∃ n, v = .int .i64 n) ∨ (ty = 9 ∧ ∃ s, v = .string s)
abbrev T2 : Spec := .inr (fun _ _ => True)
theorem run_fld {o : Oper} (ρ : Operand → Value) (w : World) (p : Operand) (g f : Nat) (hf : f = 3 ∨ f = 4 ∨ f = 5 ∨ f = 6) (h : o.op = .fieldAddr 23 p f) (hp : ρ p = .pointer (some ⟨g, 0, none⟩)) : (execOp ρ o).run Try.prog w = .ok (.value (.pointer (some ⟨g, f, none⟩))) w := by
  rcases hf with rfl | rfl | rfl | rfl <;> simp [execOp, h, hp, go_sem]
theorem run_ld {o : Oper} (ρ : Operand → Value) (w : World) (p : Operand) (ad : Addr) (ty : TypeId) (v : Value) (hv : IsV ty v) (h : o.op = .load ty p) (hp : ρ p = .pointer (some ad)) (hc : w.cell? ad = some v) : (execOp ρ o).run Try.prog w = .ok (.value v) w := by
  rcases hv with ⟨rfl, n, rfl⟩ | ⟨rfl, s, rfl⟩ <;> simp [execOp, h, hp, hc, go_sem]
theorem run_st {o : Oper} (ρ : Operand → Value) (w : World) (p y : Operand) (ad : Addr) (ty : TypeId) (v u : Value) (hv : IsV ty v) (h : o.op = .store ty p y) (hp : ρ p = .pointer (some ad)) (hy : ρ y = v) (hc : w.cell? ad = some u) (hf : w.frozen? ad = false) : (execOp ρ o).run Try.prog w = .ok .skip (w.setCell ad v) := by
  rcases hv with ⟨rfl, n, rfl⟩ | ⟨rfl, s, rfl⟩ <;> simp [execOp, h, hp, hy, hc, hf, go_sem]
theorem run_mn {o : Oper} (ρ : Operand → Value) (w : World) (p q : Operand) (ty : TypeId) (x y m : Value) (h : o.op = .call { callee := .builtin .min, args := #[p, q], argTypes := #[ty, ty] }) (hp : ρ p = x) (hq : ρ q = y) (hm : ∀ ts t, (Builtin.min_ ts t #[x, y]).run Try.prog w = .ok m w) : (execOp ρ o).run Try.prog w = .ok (.value m) w := by
  simp [execOp, h, hp, hq, hm, go_sem]
theorem run_mx {o : Oper} (ρ : Operand → Value) (w : World) (p q : Operand) (ty : TypeId) (x y m : Value) (h : o.op = .call { callee := .builtin .max, args := #[p, q], argTypes := #[ty, ty] }) (hp : ρ p = x) (hq : ρ q = y) (hm : ∀ ts t, (Builtin.max_ ts t #[x, y]).run Try.prog w = .ok m w) : (execOp ρ o).run Try.prog w = .ok (.value m) w := by
  simp [execOp, h, hp, hq, hm, go_sem]
theorem upd_ne {i j : Nat} (h : i ≠ j) (L : Nat → Bool) : upd i L j = L j := by simp [upd, h]
/-- What holds of the memory all the while. -/
structure DuoC (wE : World) (gx gy gz g4 : Nat) (X Y W : Zn) (w : World) : Prop where
  x : ZAt w gx X 23
  y : ZAt w gy Y 23
  r : ZAt w g4 W 23
  b : Below wE.heap.size wE w
set_option maxHeartbeats 4000000 in
theorem wp_duo {id : Nat} {Q : Exit → Act → World → Prop} {w wE : World} {a0 : Act} {l : List Oper} (n : Nat) (hm : Try.prog.follows .mixedOrders = true) (ty : TypeId) (f1 f2 gx gy gz g4 : Nat) (X Y W : Zn) (Zf : Bool → Bool → Zn) (x1 y1 m1 x2 y2 m2 : Value) (d0 d1 d2 d3 d4 d5 d6 d7 d8 d9 d10 d12 : Tmp)
    (o0 o1 o2 o3 o4 o5 o6 o7 o8 o9 o10 o11 o12 o13 : Oper) (hl : l = [o0, o1, o2, o3, o4, o5, o6, o7, o8, o9, o10, o11, o12, o13]) (hn : a0.tmps.size = n) (hs : sound l.toArray n = true) (hng : l.all (fun o => o.guard.isNone) = true)
    (p0 : o0.op = .fieldAddr 23 (.tmp 2) f1) (q0 : o0.dst = some d0)
    (p1 : o1.op = .load ty (.tmp d0)) (q1 : o1.dst = some d1)
    (p2 : o2.op = .fieldAddr 23 (.tmp 3) f1) (q2 : o2.dst = some d2)
    (p3 : o3.op = .load ty (.tmp d2)) (q3 : o3.dst = some d3)
    (p4 : o4.op = .call { callee := .builtin .min, args := #[.tmp d1, .tmp d3], argTypes := #[ty, ty] }) (q4 : o4.dst = some d4)
    (p5 : o5.op = .fieldAddr 23 (.tmp 2) f2) (q5 : o5.dst = some d5)
    (p6 : o6.op = .load ty (.tmp d5)) (q6 : o6.dst = some d6)
    (p7 : o7.op = .fieldAddr 23 (.tmp 3) f2) (q7 : o7.dst = some d7)
    (p8 : o8.op = .load ty (.tmp d7)) (q8 : o8.dst = some d8)
    (p9 : o9.op = .call { callee := .builtin .max, args := #[.tmp d6, .tmp d8], argTypes := #[ty, ty] }) (q9 : o9.dst = some d9)
    (p10 : o10.op = .fieldAddr 23 (.tmp 5) f1) (q10 : o10.dst = some d10)
    (p11 : o11.op = .store ty (.tmp d10) (.tmp d4)) (q11 : o11.dst = none)
    (p12 : o12.op = .fieldAddr 23 (.tmp 5) f2) (q12 : o12.dst = some d12)
    (p13 : o13.op = .store ty (.tmp d12) (.tmp d9)) (q13 : o13.dst = none)
    (specs : List Spec) (hsp : specs = [.inl (.pointer (some ⟨gx, f1, none⟩)), .inl x1, .inl (.pointer (some ⟨gy, f1, none⟩)), .inl y1, .inl m1, .inl (.pointer (some ⟨gx, f2, none⟩)), .inl x2, .inl (.pointer (some ⟨gy, f2, none⟩)), .inl y2, .inl m2, .inl (.pointer (some ⟨gz, f1, none⟩)), T2, .inl (.pointer (some ⟨gz, f2, none⟩)), T2])
    (s2 : argS l.toArray specs a0 (.tmp 2) = .inl (.pointer (some ⟨gx, 0, none⟩))) (s3 : argS l.toArray specs a0 (.tmp 3) = .inl (.pointer (some ⟨gy, 0, none⟩))) (s5 : argS l.toArray specs a0 (.tmp 5) = .inl (.pointer (some ⟨gz, 0, none⟩)))
    (sd0 : argS l.toArray specs a0 (.tmp d0) = .inl (.pointer (some ⟨gx, f1, none⟩)))
    (sd1 : argS l.toArray specs a0 (.tmp d1) = .inl x1)
    (sd2 : argS l.toArray specs a0 (.tmp d2) = .inl (.pointer (some ⟨gy, f1, none⟩)))
    (sd3 : argS l.toArray specs a0 (.tmp d3) = .inl y1)
    (sd4 : argS l.toArray specs a0 (.tmp d4) = .inl m1)
    (sd5 : argS l.toArray specs a0 (.tmp d5) = .inl (.pointer (some ⟨gx, f2, none⟩)))
    (sd6 : argS l.toArray specs a0 (.tmp d6) = .inl x2)
    (sd7 : argS l.toArray specs a0 (.tmp d7) = .inl (.pointer (some ⟨gy, f2, none⟩)))
    (sd8 : argS l.toArray specs a0 (.tmp d8) = .inl y2)
    (sd9 : argS l.toArray specs a0 (.tmp d9) = .inl m2)
    (sd10 : argS l.toArray specs a0 (.tmp d10) = .inl (.pointer (some ⟨gz, f1, none⟩)))
    (sd12 : argS l.toArray specs a0 (.tmp d12) = .inl (.pointer (some ⟨gz, f2, none⟩)))
    (hf1 : f1 = 3 ∨ f1 = 4 ∨ f1 = 5 ∨ f1 = 6) (hf2 : f2 = 3 ∨ f2 = 4 ∨ f2 = 5 ∨ f2 = 6)
    (v1 : IsV ty x1) (v2 : IsV ty y1) (v3 : IsV ty m1) (v4 : IsV ty x2) (v5 : IsV ty y2) (v6 : IsV ty m2)
    (hmn : ∀ w ts t, (Builtin.min_ ts t #[x1, y1]).run Try.prog w = .ok m1 w) (hmx : ∀ w ts t, (Builtin.max_ ts t #[x2, y2]).run Try.prog w = .ok m2 w)
    (c1 : (zc X)[f1]? = some x1) (c2 : (zc Y)[f1]? = some y1) (c3 : (zc X)[f2]? = some x2) (c4 : (zc Y)[f2]? = some y2)
    (hz1 : ∀ b, (zc (Zf false b)).set f1 m1 = zc (Zf true b)) (hz2 : ∀ b, (zc (Zf b false)).set f2 m2 = zc (Zf b true))
    (hxz : gx ≠ gz) (hyz : gy ≠ gz) (h4z : g4 ≠ gz) (hgz : wE.heap.size ≤ gz)
    (hx : ZAt w gx X 23) (hy : ZAt w gy Y 23) (h4 : ZAt w g4 W 23) (hz : ZAt w gz (Zf false false) 23) (hE : Below wE.heap.size wE w)
    (hF : ∀ (w' : World), later w' (fun a' => ZAt w' gx X 23 → ZAt w' gy Y 23 → ZAt w' g4 W 23 → ZAt w' gz (Zf true true) 23 → Below wE.heap.size wE w' → Q .normal a' w') l specs a0) : (Code.region id l.toArray true).wp Try.prog Q a0 w := by
  have hst : Stands (fun _ _ => True) specs := by rw [hsp]; exact ⟨fun _ _ _ _ _ => trivial, fun _ _ _ _ _ => trivial, trivial⟩
  have hdr : Ex w w.drew := Ex.drew w
  have hw : ∀ z : Zn, ∀ f : Nat, f = 3 ∨ f = 4 ∨ f = 5 ∨ f = 6 → ∃ u, (zc z)[f]? = some u := fun z f h => by rcases h with rfl | rfl | rfl | rfl <;> exact ⟨_, rfl⟩
  refine wp_rows_free (fun L a w' => ZAt w' gz (Zf (L 11) (L 13)) 23) (DuoC wE gx gy gz g4 X Y W) specs n hm hn hs hst hng ⟨hx.below hdr, hy.below hdr, h4.below hdr, hE.drew⟩ (hz.below hdr) ?_ ?_
  · intro i o L a w' ho hL hdep hsz hc hargs hv
    subst hl
    match i, ho, hL with
    | 0, ho, hL =>
      simp at ho; subst ho
      have h := hargs (.tmp 2) (by rw [p0]; simp [Op.operands])
      rw [s2] at h
      exact wp_val (run_fld _ _ _ _ _ hf1 p0 h) ⟨_, rfl, by rw [hsp]; rfl, hc, by show ZAt w' gz (Zf (upd 0 L 11) (upd 0 L 13)) 23; rw [upd_ne (by decide), upd_ne (by decide)]; exact hv⟩
    | 1, ho, hL =>
      simp at ho; subst ho
      have h := hargs (.tmp d0) (by rw [p1]; simp [Op.operands])
      rw [sd0] at h
      exact wp_val (run_ld _ _ _ _ ty _ v1 p1 h (by rw [hc.x.cell]; exact c1)) ⟨_, rfl, by rw [hsp]; rfl, hc, by show ZAt w' gz (Zf (upd 1 L 11) (upd 1 L 13)) 23; rw [upd_ne (by decide), upd_ne (by decide)]; exact hv⟩
    | 2, ho, hL =>
      simp at ho; subst ho
      have h := hargs (.tmp 3) (by rw [p2]; simp [Op.operands])
      rw [s3] at h
      exact wp_val (run_fld _ _ _ _ _ hf1 p2 h) ⟨_, rfl, by rw [hsp]; rfl, hc, by show ZAt w' gz (Zf (upd 2 L 11) (upd 2 L 13)) 23; rw [upd_ne (by decide), upd_ne (by decide)]; exact hv⟩
    | 3, ho, hL =>
      simp at ho; subst ho
      have h := hargs (.tmp d2) (by rw [p3]; simp [Op.operands])
      rw [sd2] at h
      exact wp_val (run_ld _ _ _ _ ty _ v2 p3 h (by rw [hc.y.cell]; exact c2)) ⟨_, rfl, by rw [hsp]; rfl, hc, by show ZAt w' gz (Zf (upd 3 L 11) (upd 3 L 13)) 23; rw [upd_ne (by decide), upd_ne (by decide)]; exact hv⟩
    | 4, ho, hL =>
      simp at ho; subst ho
      have h := hargs (.tmp d1) (by rw [p4]; simp [Op.operands, Call.operands])
      rw [sd1] at h
      have h' := hargs (.tmp d3) (by rw [p4]; simp [Op.operands, Call.operands])
      rw [sd3] at h'
      exact wp_val (run_mn _ _ _ _ ty _ _ _ p4 h h' (hmn _)) ⟨_, rfl, by rw [hsp]; rfl, hc, by show ZAt w' gz (Zf (upd 4 L 11) (upd 4 L 13)) 23; rw [upd_ne (by decide), upd_ne (by decide)]; exact hv⟩
    | 5, ho, hL =>
      simp at ho; subst ho
      have h := hargs (.tmp 2) (by rw [p5]; simp [Op.operands])
      rw [s2] at h
      exact wp_val (run_fld _ _ _ _ _ hf2 p5 h) ⟨_, rfl, by rw [hsp]; rfl, hc, by show ZAt w' gz (Zf (upd 5 L 11) (upd 5 L 13)) 23; rw [upd_ne (by decide), upd_ne (by decide)]; exact hv⟩
    | 6, ho, hL =>
      simp at ho; subst ho
      have h := hargs (.tmp d5) (by rw [p6]; simp [Op.operands])
      rw [sd5] at h
      exact wp_val (run_ld _ _ _ _ ty _ v4 p6 h (by rw [hc.x.cell]; exact c3)) ⟨_, rfl, by rw [hsp]; rfl, hc, by show ZAt w' gz (Zf (upd 6 L 11) (upd 6 L 13)) 23; rw [upd_ne (by decide), upd_ne (by decide)]; exact hv⟩
    | 7, ho, hL =>
      simp at ho; subst ho
      have h := hargs (.tmp 3) (by rw [p7]; simp [Op.operands])
      rw [s3] at h
      exact wp_val (run_fld _ _ _ _ _ hf2 p7 h) ⟨_, rfl, by rw [hsp]; rfl, hc, by show ZAt w' gz (Zf (upd 7 L 11) (upd 7 L 13)) 23; rw [upd_ne (by decide), upd_ne (by decide)]; exact hv⟩
    | 8, ho, hL =>
      simp at ho; subst ho
      have h := hargs (.tmp d7) (by rw [p8]; simp [Op.operands])
      rw [sd7] at h
      exact wp_val (run_ld _ _ _ _ ty _ v5 p8 h (by rw [hc.y.cell]; exact c4)) ⟨_, rfl, by rw [hsp]; rfl, hc, by show ZAt w' gz (Zf (upd 8 L 11) (upd 8 L 13)) 23; rw [upd_ne (by decide), upd_ne (by decide)]; exact hv⟩
    | 9, ho, hL =>
      simp at ho; subst ho
      have h := hargs (.tmp d6) (by rw [p9]; simp [Op.operands, Call.operands])
      rw [sd6] at h
      have h' := hargs (.tmp d8) (by rw [p9]; simp [Op.operands, Call.operands])
      rw [sd8] at h'
      exact wp_val (run_mx _ _ _ _ ty _ _ _ p9 h h' (hmx _)) ⟨_, rfl, by rw [hsp]; rfl, hc, by show ZAt w' gz (Zf (upd 9 L 11) (upd 9 L 13)) 23; rw [upd_ne (by decide), upd_ne (by decide)]; exact hv⟩
    | 10, ho, hL =>
      simp at ho; subst ho
      have h := hargs (.tmp 5) (by rw [p10]; simp [Op.operands])
      rw [s5] at h
      exact wp_val (run_fld _ _ _ _ _ hf1 p10 h) ⟨_, rfl, by rw [hsp]; rfl, hc, by show ZAt w' gz (Zf (upd 10 L 11) (upd 10 L 13)) 23; rw [upd_ne (by decide), upd_ne (by decide)]; exact hv⟩
    | 11, ho, hL =>
      simp at ho; subst ho
      have h := hargs (.tmp d10) (by rw [p11]; simp [Op.operands])
      rw [sd10] at h
      have h' := hargs (.tmp d4) (by rw [p11]; simp [Op.operands])
      rw [sd4] at h'
      obtain ⟨u, hu⟩ := hw (Zf (L 11) (L 13)) f1 hf1
      refine wp_skip (run_st _ _ _ _ _ ty _ u v3 p11 h h' (by rw [hv.cell]; exact hu) (hv.frozen _)) ⟨undef, rfl, by rw [hsp]; trivial, ⟨hc.x.other hxz, hc.y.other hyz, hc.r.other h4z, hc.b.setCell hgz _⟩, ?_⟩
      show ZAt _ gz (Zf (upd 11 L 11) (upd 11 L 13)) 23
      rw [upd_ne (i := 11) (j := 13) (by decide)]
      rw [hL] at hv
      exact hv.set (hz1 _)
    | 12, ho, hL =>
      simp at ho; subst ho
      have h := hargs (.tmp 5) (by rw [p12]; simp [Op.operands])
      rw [s5] at h
      exact wp_val (run_fld _ _ _ _ _ hf2 p12 h) ⟨_, rfl, by rw [hsp]; rfl, hc, by show ZAt w' gz (Zf (upd 12 L 11) (upd 12 L 13)) 23; rw [upd_ne (by decide), upd_ne (by decide)]; exact hv⟩
    | 13, ho, hL =>
      simp at ho; subst ho
      have h := hargs (.tmp d12) (by rw [p13]; simp [Op.operands])
      rw [sd12] at h
      have h' := hargs (.tmp d9) (by rw [p13]; simp [Op.operands])
      rw [sd9] at h'
      obtain ⟨u, hu⟩ := hw (Zf (L 11) (L 13)) f2 hf2
      refine wp_skip (run_st _ _ _ _ _ ty _ u v6 p13 h h' (by rw [hv.cell]; exact hu) (hv.frozen _)) ⟨undef, rfl, by rw [hsp]; trivial, ⟨hc.x.other hxz, hc.y.other hyz, hc.r.other h4z, hc.b.setCell hgz _⟩, ?_⟩
      show ZAt _ gz (Zf (upd 13 L 11) (upd 13 L 13)) 23
      rw [upd_ne (i := 13) (j := 11) (by decide)]
      rw [hL] at hv
      exact hv.set (hz2 _)
    | k + 14, ho, hL => simp at ho
  · intro w' hc
    refine later_mono ?_ _ _ _ (hF w')
    rintro a' h ⟨L, hL, hV⟩
    subst hl
    rw [hL 11 (by simp), hL 13 (by simp)] at hV
    exact h hc.x hc.y hc.r hV hc.b
end Rg.Fr
end Go.Proofs.Ytnfbmffafclaaaa
