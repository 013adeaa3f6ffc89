/-
  What Build answers: the least and the greatest of the cells that count. No program here.
-/
import Derived.Test.YtnfbmffafclaaaaZlaw
namespace Go.Proofs.Ytnfbmffafclaaaa.Z
open Go.Proofs.Ytnfbmffafclaaaa
set_option linter.unusedVariables false
set_option linter.unusedSimpArgs false
def ints (l : List Cel) : List Int := (l.filter (fun c => c.k == 1)).map (·.n)
def txts (l : List Cel) : List (List UInt8) := (l.filter (fun c => c.k == 2)).map (·.s)
theorem ints_append (l m : List Cel) : ints (l ++ m) = ints l ++ ints m := by simp [ints]
theorem txts_append (l m : List Cel) : txts (l ++ m) = txts l ++ txts m := by simp [txts]
theorem ints_len (l : List Cel) : (ints l).length ≤ l.length := by simp only [ints, List.length_map]; exact List.length_filter_le _ _
theorem txts_len (l : List Cel) : (txts l).length ≤ l.length := by simp only [txts, List.length_map]; exact List.length_filter_le _ _
def eI (l : List Cel) : Int × Int := (ends oI (ints l)).getD (0, 0)
def eT (l : List Cel) : List UInt8 × List UInt8 := (ends oT (txts l)).getD ([], [])
theorem fold1 (n : Int) (l : List Cel) : fold 1 n l = (⟨1, n, ((l.length - (ints l).length : Nat) : Int), (eI l).1, (eI l).2, [], []⟩, (ints l).isEmpty) :=
  snoc_ind (P := fun l => fold 1 n l = (⟨1, n, ((l.length - (ints l).length : Nat) : Int), (eI l).1, (eI l).2, [], []⟩, (ints l).isEmpty)) (by simp [fold, ints, eI, ends]) (fun l c ih => by
    have hl := ints_len l
    rw [fold_snoc, ih]
    by_cases hc : c.k = 1
    · have hi : ints (l ++ [c]) = ints l ++ [c.n] := by rw [ints_append]; simp [ints, hc]
      have he : ends oI (ints (l ++ [c])) = comb oI (ends oI (ints l)) (some (c.n, c.n)) := by rw [hi, ends_snoc]
      unfold step
      rw [if_neg (by rw [hc]; simp), if_pos rfl]
      have hn : ((l ++ [c]).length - (ints (l ++ [c])).length : Nat) = l.length - (ints l).length := by rw [hi]; simp
      have hem : (ints (l ++ [c])).isEmpty = false := by rw [hi]; simp
      rw [hn, hem]
      cases hx : ends oI (ints l) with
      | none =>
        have h0 := (ends_none oI _).1 hx
        have e1 : eI l = (0, 0) := by simp only [eI, hx]; rfl
        have e2 : eI (l ++ [c]) = (c.n, c.n) := by simp only [eI, he, hx, comb]; rfl
        rw [e1, e2, h0]
        simp
      | some p =>
        have hne : (ints l).isEmpty = false := by
          cases hb : ints l with
          | nil => rw [hb] at hx; simp [ends] at hx
          | cons a r => rfl
        have e1 : eI l = p := by simp only [eI, hx]; rfl
        have e2 : eI (l ++ [c]) = (mn2 oI p.1 c.n, mx2 oI p.2 c.n) := by simp only [eI, he, hx, comb]; rfl
        rw [e1, e2, hne]
        simp [mn2, mx2, oI]
    · have hi : ints (l ++ [c]) = ints l := by rw [ints_append]; simp [ints, hc]
      unfold step
      rw [if_pos (.inl hc)]
      have hn : ((l ++ [c]).length - (ints (l ++ [c])).length : Nat) = (l.length - (ints l).length) + 1 := by rw [hi]; simp; omega
      rw [hn]
      simp [eI, hi]) l.length l rfl
theorem fold2 (n : Int) (l : List Cel) : fold 2 n l = (⟨2, n, ((l.length - (txts l).length : Nat) : Int), 0, 0, (eT l).1, (eT l).2⟩, (txts l).isEmpty) :=
  snoc_ind (P := fun l => fold 2 n l = (⟨2, n, ((l.length - (txts l).length : Nat) : Int), 0, 0, (eT l).1, (eT l).2⟩, (txts l).isEmpty)) (by simp [fold, txts, eT, ends]) (fun l c ih => by
    have hl := txts_len l
    rw [fold_snoc, ih]
    by_cases hc : c.k = 2
    · have hi : txts (l ++ [c]) = txts l ++ [c.s] := by rw [txts_append]; simp [txts, hc]
      have he : ends oT (txts (l ++ [c])) = comb oT (ends oT (txts l)) (some (c.s, c.s)) := by rw [hi, ends_snoc]
      unfold step
      rw [if_neg (by rw [hc]; simp), if_neg (by omega), if_pos rfl]
      have hn : ((l ++ [c]).length - (txts (l ++ [c])).length : Nat) = l.length - (txts l).length := by rw [hi]; simp
      have hem : (txts (l ++ [c])).isEmpty = false := by rw [hi]; simp
      rw [hn, hem]
      cases hx : ends oT (txts l) with
      | none =>
        have h0 := (ends_none oT _).1 hx
        have e1 : eT l = ([], []) := by simp only [eT, hx]; rfl
        have e2 : eT (l ++ [c]) = (c.s, c.s) := by simp only [eT, he, hx, comb]; rfl
        rw [e1, e2, h0]
        simp
      | some p =>
        have hne : (txts l).isEmpty = false := by
          cases hb : txts l with
          | nil => rw [hb] at hx; simp [ends] at hx
          | cons a r => rfl
        have e1 : eT l = p := by simp only [eT, hx]; rfl
        have e2 : eT (l ++ [c]) = (mn2 oT p.1 c.s, mx2 oT p.2 c.s) := by simp only [eT, he, hx, comb]; rfl
        rw [e1, e2, hne]
        simp [mn2, mx2, oT]
        refine ⟨?_, ?_⟩ <;> (split <;> rename_i h <;> simp [h])
    · have hi : txts (l ++ [c]) = txts l := by rw [txts_append]; simp [txts, hc]
      unfold step
      rw [if_pos (.inl hc)]
      have hn : ((l ++ [c]).length - (txts (l ++ [c])).length : Nat) = (l.length - (txts l).length) + 1 := by rw [hi]; simp; omega
      rw [hn]
      simp [eT, hi]) l.length l rfl
theorem build1 (l : List Cel) : build 1 l = ⟨1, l.length, ((l.length - (ints l).length : Nat) : Int), (eI l).1, (eI l).2, [], []⟩ := by rw [build, fold1]
theorem build2 (l : List Cel) : build 2 l = ⟨2, l.length, ((l.length - (txts l).length : Nat) : Int), 0, 0, (eT l).1, (eT l).2⟩ := by rw [build, fold2]
theorem ends_mem {α : Type} (o : Ord' α) (l : List α) : ∀ p, ends o l = some p → p.1 ∈ l ∧ p.2 ∈ l :=
  snoc_ind (P := fun l => ∀ p, ends o l = some p → p.1 ∈ l ∧ p.2 ∈ l) (by intro p h; simp [ends] at h) (fun l x ih p h => by
    rw [ends_snoc] at h
    cases hl : ends o l with
    | none =>
      rw [hl] at h
      simp [comb] at h
      subst h
      simp
    | some q =>
      rw [hl] at h
      simp only [comb, Option.some.injEq] at h
      subst h
      have := ih q hl
      refine ⟨?_, ?_⟩
      · show mn2 o q.1 x ∈ l ++ [x]
        unfold mn2
        split
        · simp
        · simp [this.1]
      · show mx2 o q.2 x ∈ l ++ [x]
        unfold mx2
        split
        · simp
        · simp [this.2]) l.length l rfl
/-- A zone of cells is Right. -/
theorem build_right1 {l : List Cel} (hl : l.length ≤ 1048576) : right (build 1 l) = true := by
  have h1 := ints_len l
  rw [build1]
  simp only [right, shape, nums, texts]
  cases hx : ends oI (ints l) with
  | none =>
    have h0 := (ends_none oI _).1 hx
    have he : eI l = (0, 0) := by simp [eI, hx]
    rw [he, h0]
    simp
    omega
  | some p =>
    have he : eI l = p := by simp [eI, hx]
    have hle := (ends_le oI _ p hx).1
    have hpos : 0 < (ints l).length := by
      cases hb : ints l with
      | nil => rw [hb] at hx; simp [ends] at hx
      | cons a r => simp
    rw [he]
    simp [oI] at hle
    rw [if_neg (by omega)]
    simp
    omega
theorem build_right2 {l : List Cel} (hl : l.length ≤ 1048576) (ht : ∀ s ∈ txts l, s.length ≤ 40) : right (build 2 l) = true := by
  have h1 := txts_len l
  rw [build2]
  simp only [right, shape, nums, texts]
  cases hx : ends oT (txts l) with
  | none =>
    have h0 := (ends_none oT _).1 hx
    have he : eT l = ([], []) := by simp [eT, hx]
    rw [he, h0]
    simp
    omega
  | some p =>
    have he : eT l = p := by simp [eT, hx]
    have hle : T.lt p.2 p.1 = false := (ends_le oT _ p hx).1
    have hm := ends_mem oT _ p hx
    have t1 := ht _ hm.1
    have t2 := ht _ hm.2
    have hpos : 0 < (txts l).length := by
      cases hb : txts l with
      | nil => rw [hb] at hx; simp [ends] at hx
      | cons a r => simp
    rw [he]
    rw [if_neg (by omega)]
    simp [le, hle]
    omega
end Go.Proofs.Ytnfbmffafclaaaa.Z
