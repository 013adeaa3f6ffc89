/-
  Slices of cells, cells written in place; what counts in a column.
-/
import Derived.Test.YtnfbmffafclaaaaZgrow
import Derived.Test.YtnfbmffafclaaaaZreg
namespace Go.Proofs.Ytnfbmffafclaaaa
open Go.RowKit
set_option linter.unusedVariables false
set_option linter.unusedSimpArgs false
theorem slice_cells (a : Option Addr) (n cap : Nat) (l : List Cel) (lo hi : Nat) (hn : n = l.length) (h1 : lo ≤ hi) (h2 : hi ≤ l.length) (h3 : l.length ≤ cap) (h4 : cap ≤ maxLen) (h5 : a = none → cap = 0) :
    ∃ a' c', (∀ w, (Instr.sliceAt 46 (.slice a n cap) (some (.int .i64 lo)) (some (.int .i64 hi)) none).run Try.prog w = .ok (.slice a' (hi - lo) c') w) ∧ ∀ w, RdC w a cap l → RdC w a' c' ((l.drop lo).take (hi - lo)) := by
  subst hn
  unfold maxLen at h4
  have i0 : (lo : Int) ≤ (hi : Int) := by omega
  have i1 : (hi : Int) ≤ (cap : Int) := by omega
  have i3 : cap ≤ 9223372036854775807 := by omega
  by_cases hck : cap = lo
  · have hl0 : (l.drop lo).take (hi - lo) = [] := by apply List.eq_nil_of_length_eq_zero; simp; omega
    have hkc : hi = lo := by omega
    refine ⟨a, 0, fun w => ?_, fun w h => ?_⟩
    · have e : cap - lo = 0 := by omega
      have e2 : hi - lo = 0 := by omega
      go_simp
    · rw [hl0]; exact ⟨by simp, by simp [maxLen], fun _ => rfl, fun i x hi => by simp at hi⟩
  · have hne : ¬ cap - lo = 0 := by omega
    cases a with
    | none => have := h5 rfl; omega
    | some ad =>
      refine ⟨some (ad.add (lo * 4)), cap - lo, fun w => ?_, fun w h => ?_⟩
      · go_simp
      · obtain ⟨g1, g2, g3, g4⟩ := h
        refine ⟨by simp; omega, by unfold maxLen; omega, by simp, fun i x hi => ?_⟩
        rw [List.getElem?_take] at hi
        split at hi
        · rw [List.getElem?_drop] at hi
          obtain ⟨b, off, e, e0, e1, e2, e3⟩ := g4 (lo + i) x hi
          simp only [Option.some.injEq] at e
          subst e
          have he : off + lo * 4 + i * 4 = off + (lo + i) * 4 := by omega
          exact ⟨b, off + lo * 4, by rw [add_none], by rw [he]; exact e0, by rw [he]; exact e1, by rw [he]; exact e2, by rw [he]; exact e3⟩
        · cases hi
theorem slice_rest (a : Option Addr) (n cap : Nat) (l : List Cel) (lo : Nat) (hn : n = l.length) (h2 : lo ≤ l.length) (h3 : l.length ≤ cap) (h4 : cap ≤ maxLen) (h5 : a = none → cap = 0) :
    ∃ a' c', (∀ w, (Instr.sliceAt 46 (.slice a n cap) (some (.int .i64 lo)) none none).run Try.prog w = .ok (.slice a' (n - lo) c') w) ∧ ∀ w, RdC w a cap l → RdC w a' c' (l.drop lo) := by
  subst hn
  unfold maxLen at h4
  have i0 : (lo : Int) ≤ (l.length : Int) := by omega
  have i1 : (l.length : Int) ≤ (cap : Int) := by omega
  have i3 : cap ≤ 9223372036854775807 := by omega
  by_cases hck : cap = lo
  · have hl0 : l.drop lo = [] := by apply List.eq_nil_of_length_eq_zero; simp; omega
    have hkc : l.length = lo := by omega
    refine ⟨a, 0, fun w => ?_, fun w h => ?_⟩
    · have e : cap - lo = 0 := by omega
      have e2 : l.length - lo = 0 := by omega
      go_simp
    · rw [hl0]; exact ⟨by simp, by simp [maxLen], fun _ => rfl, fun i x hi => by simp at hi⟩
  · have hne : ¬ cap - lo = 0 := by omega
    cases a with
    | none => have := h5 rfl; omega
    | some ad =>
      refine ⟨some (ad.add (lo * 4)), cap - lo, fun w => ?_, fun w h => ?_⟩
      · go_simp
      · obtain ⟨g1, g2, g3, g4⟩ := h
        refine ⟨by simp; omega, by unfold maxLen; omega, by simp, fun i x hi => ?_⟩
        rw [List.getElem?_drop] at hi
        obtain ⟨b, off, e, e0, e1, e2, e3⟩ := g4 (lo + i) x hi
        simp only [Option.some.injEq] at e
        subst e
        have he : off + lo * 4 + i * 4 = off + (lo + i) * 4 := by omega
        exact ⟨b, off + lo * 4, by rw [add_none], by rw [he]; exact e0, by rw [he]; exact e1, by rw [he]; exact e2, by rw [he]; exact e3⟩
theorem slice_head (a : Option Addr) (n cap k : Nat) (w : World) (hk : k ≤ cap) (hc : cap ≤ maxLen) : (Instr.sliceAt 46 (.slice a n cap) none (some (.int .i64 k)) none).run Try.prog w = .ok (.slice a k cap) w := by
  unfold maxLen at hc
  have i1 : (k : Int) ≤ (cap : Int) := by omega
  have i3 : cap ≤ 9223372036854775807 := by omega
  go_simp
namespace Rg
theorem good_slice1 {P : Program} {ops : Array Oper} {specs : List Spec} {a0 : Act} {C : World → Prop} {E : World → World → Prop} {o : Oper} {t : TypeId} {x lo : Operand} {vx vl v : Value} (hrefl : ∀ w, E w w) (ho : o.op = .slice t x (some lo) none none) (hg : guardV ops specs a0 o = some true) (hx : argS ops specs a0 x = .inl vx) (hl : argS ops specs a0 lo = .inl vl)
    (h : ∀ w, (Instr.sliceAt t vx (some vl) none none).run P w = .ok v w) : GoodOp P ops specs a0 C E o (.inl v) :=
  good_val hrefl hg fun a w hC hs => by
    have h2 := hs x (by rw [ho]; simp [Op.operands])
    rw [hx] at h2
    have h4 := hs lo (by rw [ho]; simp [Op.operands])
    rw [hl] at h4
    simp only [Spec.ok] at h2 h4
    refine ⟨v, ?_, rfl⟩
    unfold execOp
    rw [ho]
    simp only [Option.map_some, Option.map_none, h2, h4, Sem.run_bind, Result.andThen, h w, Sem.run_pure]
theorem good_slice4 {P : Program} {ops : Array Oper} {specs : List Spec} {a0 : Act} {C : World → Prop} {E : World → World → Prop} {o : Oper} {t : TypeId} {x lo hi : Operand} {vx vl vh v : Value} (hrefl : ∀ w, E w w) (ho : o.op = .slice t x (some lo) (some hi) none) (hg : guardV ops specs a0 o = some true) (hx : argS ops specs a0 x = .inl vx) (hl : argS ops specs a0 lo = .inl vl) (hh : argS ops specs a0 hi = .inl vh)
    (h : ∀ w, (Instr.sliceAt t vx (some vl) (some vh) none).run P w = .ok v w) : GoodOp P ops specs a0 C E o (.inl v) :=
  good_val hrefl hg fun a w hC hs => by
    have h2 := hs x (by rw [ho]; simp [Op.operands])
    rw [hx] at h2
    have h4 := hs lo (by rw [ho]; simp [Op.operands])
    rw [hl] at h4
    have h5 := hs hi (by rw [ho]; simp [Op.operands])
    rw [hh] at h5
    simp only [Spec.ok] at h2 h4 h5
    refine ⟨v, ?_, rfl⟩
    unfold execOp
    rw [ho]
    simp only [Option.map_some, Option.map_none, h2, h4, h5, Sem.run_bind, Result.andThen, h w, Sem.run_pure]
theorem good_slice0 {P : Program} {ops : Array Oper} {specs : List Spec} {a0 : Act} {C : World → Prop} {E : World → World → Prop} {o : Oper} {t : TypeId} {x hi : Operand} {vx vh v : Value} (hrefl : ∀ w, E w w) (ho : o.op = .slice t x none (some hi) none) (hg : guardV ops specs a0 o = some true) (hx : argS ops specs a0 x = .inl vx) (hh : argS ops specs a0 hi = .inl vh)
    (h : ∀ w, (Instr.sliceAt t vx none (some vh) none).run P w = .ok v w) : GoodOp P ops specs a0 C E o (.inl v) :=
  good_val hrefl hg fun a w hC hs => by
    have h2 := hs x (by rw [ho]; simp [Op.operands])
    rw [hx] at h2
    have h5 := hs hi (by rw [ho]; simp [Op.operands])
    rw [hh] at h5
    simp only [Spec.ok] at h2 h5
    refine ⟨v, ?_, rfl⟩
    unfold execOp
    rw [ho]
    simp only [Option.map_some, Option.map_none, h2, h5, Sem.run_bind, Result.andThen, h w, Sem.run_pure]
end Rg
theorem ccs_set : ∀ (l : List Cel) (i : Nat) (c : Cel) (s : List UInt8), l[i]? = some c → ccs (l.set i { c with s := s }) = (ccs l).set (i * 4 + 3) (.string (str s))
  | [], i, c, s, h => by simp at h
  | d :: l, 0, c, s, h => by
    simp at h
    subst h
    rfl
  | d :: l, i + 1, c, s, h => by
    simp at h
    rw [List.set_cons_succ, ccs_cons, ccs_cons, ccs_set l i c s h, List.set_append_right _ _ (by rw [cc_len]; omega), cc_len]
    congr 2
    omega
theorem OwnC.set {w : World} {base g n cap i : Nat} {l : List Cel} {c : Cel} (h : OwnC w base (.slice (some ⟨g, 0, none⟩) n cap) l) (hn : n = l.length) (hc : l[i]? = some c) (s : List UInt8) : OwnC (w.setCell ⟨g, i * 4 + 3, none⟩ (.string (str s))) base (.slice (some ⟨g, 0, none⟩) n cap) (l.set i { c with s := s }) := by
  subst hn
  have h' := (World.ownsRow.stored (show w.ownsRow base 52 4 (.slice (some ⟨g, 0, none⟩) l.length cap) l.length (ccs l) from h) (i * 4 + 3) (.string (str s))).1
  show World.ownsRow _ _ _ _ _ _ _
  rw [List.length_set, ccs_set l i c s hc]
  exact h'
theorem OwnC.frozen {w : World} {base g n cap : Nat} (k : Nat) {l : List Cel} (h : OwnC w base (.slice (some ⟨g, 0, none⟩) n cap) l) (hn : n = l.length) : w.frozen? ⟨g, k, none⟩ = false := by
  subst hn
  exact World.ownsRow.frozenAt (show w.ownsRow base 52 4 (.slice (some ⟨g, 0, none⟩) l.length cap) l.length (ccs l) from h) k
namespace Z
/-- How many do not count. -/
def nulls (K : Int) (l : List Cel) : Nat := (l.filter (fun c => c.k != K)).length
theorem nulls_snoc (K : Int) (l : List Cel) (c : Cel) : nulls K (l ++ [c]) = nulls K l + if c.k = K then 0 else 1 := by
  unfold nulls
  rw [List.filter_append, List.length_append]
  by_cases h : c.k = K <;> simp [h]
theorem filter_both {α : Type} (p : α → Bool) (l : List α) : (l.filter p).length + (l.filter (fun x => !p x)).length = l.length := by
  induction l with
  | nil => rfl
  | cons a l ih =>
    by_cases h : p a = true
    · simp [h]; omega
    · simp [h]; omega
theorem build_nulls {K : Int} (hK : Kind K) (l : List Cel) : (build K l).u = (nulls K l : Int) := by
  have hb := filter_both (fun c : Cel => c.k == K) l
  have he : (fun x : Cel => !(x.k == K)) = (fun c : Cel => c.k != K) := rfl
  rw [he] at hb
  rcases hK with rfl | rfl
  · rw [build1]
    simp only [ints, List.length_map, nulls]
    omega
  · rw [build2]
    simp only [txts, List.length_map, nulls]
    omega
/-- Each cell that counts lies within. -/
theorem build_in1 {l : List Cel} {c : Cel} (h : c ∈ l) (hk : c.k = 1) : (build 1 l).mn ≤ c.n ∧ c.n ≤ (build 1 l).mx := by
  have hm : c.n ∈ ints l := List.mem_map.2 ⟨c, List.mem_filter.2 ⟨h, by simp [hk]⟩, rfl⟩
  rw [build1]
  cases hx : ends oI (ints l) with
  | none => rw [(ends_none oI _).1 hx] at hm; cases hm
  | some p =>
    have := (ends_le oI _ p hx).2 _ hm
    rw [(eI_some hx).1]
    simp [oI] at this
    exact this
theorem build_in2 {l : List Cel} {c : Cel} (h : c ∈ l) (hk : c.k = 2) : T.lt c.s (build 2 l).ms = false ∧ T.lt (build 2 l).xs c.s = false := by
  have hm : c.s ∈ txts l := List.mem_map.2 ⟨c, List.mem_filter.2 ⟨h, by simp [hk]⟩, rfl⟩
  rw [build2]
  cases hx : ends oT (txts l) with
  | none => rw [(ends_none oT _).1 hx] at hm; cases hm
  | some p =>
    have := (ends_le oT _ p hx).2 _ hm
    rw [(eT_some hx).1]
    exact this
end Z
end Go.Proofs.Ytnfbmffafclaaaa
