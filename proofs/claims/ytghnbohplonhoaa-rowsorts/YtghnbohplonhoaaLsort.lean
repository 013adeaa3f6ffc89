/-
  Plain facts on rows that are put in order by joining them two by two: those that are alike stand as they stood. No program here. Rows in a block; package row's join: two lists that are in order into one, in place of a part of a third. Package row: copies, Sort.
-/
import Derived.Test.YtghnbohplonhoaaRmem
import Derived.Test.YtghnbohplonhoaaRsort
import Derived.Test.YtghnbohplonhoaaLone
import Derived.Test.YtghnbohplonhoaaRname
import Derived.Test.YtghnbohplonhoaaWides
namespace Go.Proofs.Ytghnbohplonhoaa
set_option linter.unusedVariables false
/-- A row as it lies, and the row that it is. -/
abbrev PR := RV × Rw
namespace Ms
/-- Its time and number. -/
def kr (x : PR) : Rw := ⟨x.1.t, x.1.q, []⟩
def ls (x y : PR) : Bool := Rw.less (kr x) (kr y)
def le (x y : PR) : Bool := !ls y x
theorem le_not {x y : PR} : le x y = true ↔ ls y x = false := by unfold le; simp
theorem not_le {x y : PR} (h : le x y = false) : ls y x = true := by unfold le at h; simpa using h
theorem ls_asymm {x y : PR} (h : ls x y = true) : ls y x = false := by
  unfold ls at h ⊢
  rw [Rw.less_iff] at h
  rw [Rw.less_no]
  omega
/-- None falls. -/
def Srt (d : List PR) : Prop := d.Pairwise fun x y => ls y x = false
theorem srt_cons {x : PR} {d : List PR} : Srt (x :: d) ↔ (∀ y ∈ d, ls y x = false) ∧ Srt d := List.pairwise_cons
theorem ge_trans {x y z : PR} (h1 : ls y x = false) (h2 : ls z y = false) : ls z x = false := by
  unfold ls at *
  rw [Rw.less_no] at *
  omega
/-- Two rows joined. -/
def mg : Nat → List PR → List PR → List PR
  | 0, _, _ => []
  | k + 1, [], [] => []
  | k + 1, x :: a, [] => x :: mg k a []
  | k + 1, [], y :: b => y :: mg k [] b
  | k + 1, x :: a, y :: b => if le x y = true then x :: mg k a (y :: b) else y :: mg k (x :: a) b
theorem mg_mem (x : PR) : ∀ (k : Nat) (a b : List PR), a.length + b.length ≤ k → (x ∈ mg k a b ↔ x ∈ a ∨ x ∈ b)
  | 0, a, b, h => by
    have ha : a = [] := List.eq_nil_of_length_eq_zero (by omega)
    have hb : b = [] := List.eq_nil_of_length_eq_zero (by omega)
    subst ha; subst hb; simp [mg]
  | k + 1, [], [], h => by simp [mg]
  | k + 1, y :: a, [], h => by
    rw [mg, List.mem_cons, mg_mem x k a [] (by simp at h ⊢; omega)]; simp
  | k + 1, [], y :: b, h => by
    rw [mg, List.mem_cons, mg_mem x k [] b (by simp at h ⊢; omega)]; simp
  | k + 1, y :: a, z :: b, h => by
    rw [mg]
    split
    · rw [List.mem_cons, mg_mem x k a (z :: b) (by simp at h ⊢; omega)]
      simp only [List.mem_cons, or_assoc]
    · rw [List.mem_cons, mg_mem x k (y :: a) b (by simp at h ⊢; omega)]
      simp only [List.mem_cons]
      constructor
      · rintro (h | (h | h) | h)
        · exact .inr (.inl h)
        · exact .inl (.inl h)
        · exact .inl (.inr h)
        · exact .inr (.inr h)
      · rintro ((h | h) | h | h)
        · exact .inr (.inl (.inl h))
        · exact .inr (.inl (.inr h))
        · exact .inl h
        · exact .inr (.inr h)
theorem mg_len : ∀ (k : Nat) (a b : List PR), a.length + b.length ≤ k → (mg k a b).length = a.length + b.length
  | 0, a, b, h => by simp [mg]; omega
  | k + 1, [], [], h => by simp [mg]
  | k + 1, y :: a, [], h => by
    rw [mg, List.length_cons, mg_len k a [] (by simp at h ⊢; omega)]; simp
  | k + 1, [], y :: b, h => by
    rw [mg, List.length_cons, mg_len k [] b (by simp at h ⊢; omega)]; simp
  | k + 1, y :: a, z :: b, h => by
    rw [mg]
    split
    · rw [List.length_cons, mg_len k a (z :: b) (by simp at h ⊢; omega)]; simp; omega
    · rw [List.length_cons, mg_len k (y :: a) b (by simp at h ⊢; omega)]; simp; omega
theorem mg_srt : ∀ (k : Nat) (a b : List PR), a.length + b.length ≤ k → Srt a → Srt b → Srt (mg k a b)
  | 0, a, b, h, ha, hb => by simp [mg, Srt]
  | k + 1, [], [], h, ha, hb => by simp [mg, Srt]
  | k + 1, y :: a, [], h, ha, hb => by
    have ha' := srt_cons.1 ha
    have hk : a.length + ([] : List PR).length ≤ k := by simp at h ⊢; omega
    rw [mg, srt_cons]
    refine ⟨fun z hz => ?_, mg_srt k a [] hk ha'.2 hb⟩
    rcases (mg_mem z k a [] hk).1 hz with hz | hz
    · exact ha'.1 z hz
    · simp at hz
  | k + 1, [], y :: b, h, ha, hb => by
    have hb' := srt_cons.1 hb
    have hk : ([] : List PR).length + b.length ≤ k := by simp at h ⊢; omega
    rw [mg, srt_cons]
    refine ⟨fun z hz => ?_, mg_srt k [] b hk ha hb'.2⟩
    rcases (mg_mem z k [] b hk).1 hz with hz | hz
    · simp at hz
    · exact hb'.1 z hz
  | k + 1, y :: a, z :: b, h, ha, hb => by
    have ha' := srt_cons.1 ha
    have hb' := srt_cons.1 hb
    rw [mg]
    split
    · rename_i hle
      have hk : a.length + (z :: b).length ≤ k := by simp at h ⊢; omega
      rw [srt_cons]
      refine ⟨fun u hu => ?_, mg_srt k a (z :: b) hk ha'.2 hb⟩
      rcases (mg_mem u k a (z :: b) hk).1 hu with hu | hu
      · exact ha'.1 u hu
      · rcases List.mem_cons.1 hu with rfl | hu
        · exact le_not.1 hle
        · exact ge_trans (le_not.1 hle) (hb'.1 u hu)
    · rename_i hle
      have hzy : ls z y = true := not_le (by simpa using hle)
      have hk : (y :: a).length + b.length ≤ k := by simp at h ⊢; omega
      rw [srt_cons]
      refine ⟨fun u hu => ?_, mg_srt k (y :: a) b hk ha hb'.2⟩
      rcases (mg_mem u k (y :: a) b hk).1 hu with hu | hu
      · rcases List.mem_cons.1 hu with rfl | hu
        · exact ls_asymm hzy
        · exact ge_trans (ls_asymm hzy) (ha'.1 u hu)
      · exact hb'.1 u hu
/-- Rows of s are in order. -/
def Ch (s : Nat) (F : List PR) : Prop := ∀ k, Srt ((F.drop (k * s)).take s)
theorem ch_one (F : List PR) : Ch 1 F := by
  intro k
  generalize F.drop (k * 1) = d
  cases d with
  | nil => simp [Srt]
  | cons x r => simp [Srt]
theorem ch_all {s : Nat} {F : List PR} (h : Ch s F) (hs : F.length ≤ s) : Srt F := by
  have := h 0
  rwa [Nat.zero_mul, List.drop_zero, List.take_of_length_le hs] at this
/-- One round: rows joined two by two. -/
def pass : Nat → Nat → List PR → List PR
  | 0, _, _ => []
  | k + 1, s, F => mg ((F.take s).length + ((F.drop s).take s).length) (F.take s) ((F.drop s).take s) ++ pass k s (F.drop (2 * s))
theorem pass_nil (s : Nat) : ∀ k, pass k s [] = []
  | 0 => rfl
  | k + 1 => by simp [pass, mg, pass_nil s k]
theorem pass_len (s : Nat) (hs : 0 < s) : ∀ (k : Nat) (F : List PR), F.length ≤ k → (pass k s F).length = F.length
  | 0, F, h => by simp [pass]; omega
  | k + 1, F, h => by
    rw [pass, List.length_append, mg_len _ _ _ (Nat.le_refl _), pass_len s hs k (F.drop (2 * s)) (by simp; omega)]
    simp
    omega
theorem mem_take_drop (x : PR) (n : Nat) (F : List PR) : x ∈ F ↔ x ∈ F.take n ∨ x ∈ F.drop n := by
  have h : x ∈ F.take n ++ F.drop n ↔ x ∈ F := by rw [List.take_append_drop]
  rw [← h, List.mem_append]
theorem pass_mem (x : PR) (s : Nat) (hs : 0 < s) : ∀ (k : Nat) (F : List PR), F.length ≤ k → (x ∈ pass k s F ↔ x ∈ F)
  | 0, F, h => by
    have : F = [] := List.eq_nil_of_length_eq_zero (by omega)
    subst this; simp [pass]
  | k + 1, F, h => by
    rw [pass, List.mem_append, mg_mem _ _ _ _ (Nat.le_refl _), pass_mem x s hs k (F.drop (2 * s)) (by simp; omega)]
    rw [mem_take_drop x s F, mem_take_drop x s (F.drop s), List.drop_drop, or_assoc, show s + s = 2 * s from by omega]
theorem pass_ch (s : Nat) (hs : 0 < s) : ∀ (k : Nat) (F : List PR), F.length ≤ k → Ch s F → Ch (2 * s) (pass k s F)
  | 0, F, h, hc => by intro j; simp [pass, Srt]
  | k + 1, F, h, hc => by
    have hc0 := hc 0
    have hc1 := hc 1
    rw [Nat.zero_mul, List.drop_zero] at hc0
    rw [Nat.one_mul] at hc1
    have hM := mg_srt _ (F.take s) ((F.drop s).take s) (Nat.le_refl _) hc0 hc1
    have hL := mg_len _ (F.take s) ((F.drop s).take s) (Nat.le_refl _)
    have hch : Ch s (F.drop (2 * s)) := by
      intro j
      rw [List.drop_drop, show 2 * s + j * s = (j + 2) * s from by rw [Nat.add_mul, Nat.add_comm]]
      exact hc (j + 2)
    have ih := pass_ch s hs k (F.drop (2 * s)) (by simp; omega) hch
    rw [pass]
    generalize hMd : mg ((F.take s).length + ((F.drop s).take s).length) (F.take s) ((F.drop s).take s) = M at *
    intro j
    by_cases h2 : 2 * s ≤ F.length
    · have hM2 : M.length = 2 * s := by rw [hL]; simp; omega
      cases j with
      | zero =>
        rw [Nat.zero_mul, List.drop_zero, ← hM2, List.take_left]
        exact hM
      | succ j =>
        rw [show (j + 1) * (2 * s) = M.length + j * (2 * s) from by rw [hM2, Nat.add_mul, Nat.one_mul, Nat.add_comm], ← List.drop_drop, List.drop_left]
        exact ih j
    · have hE : F.drop (2 * s) = [] := List.drop_eq_nil_of_le (by omega)
      rw [hE, pass_nil, List.append_nil]
      have hM2 : M.length ≤ 2 * s := by rw [hL]; simp; omega
      cases j with
      | zero =>
        rw [Nat.zero_mul, List.drop_zero, List.take_of_length_le hM2]
        exact hM
      | succ j =>
        rw [List.drop_eq_nil_of_le (by rw [Nat.add_mul]; omega)]
        simp [Srt]
/-- One step of a round. -/
theorem pass_step {s p n m e k : Nat} {F Tt A C G0 : List PR} (hs : 0 < s) (hF : F.length = n) (hT : Tt.length = n) (hp : p < n) (hm : m = min (p + s) n) (he : e = min (m + s) n)
    (hA : A = (F.drop p).take (m - p)) (hC : C = (F.drop m).take (e - m)) (hG : mg (A.length + C.length) A C = G0) :
    A.length = m - p ∧ C.length = e - m ∧ (Tt.take p ++ G0 ++ Tt.drop (p + (A.length + C.length))).length = n ∧
    (Tt.take p ++ G0 ++ Tt.drop (p + (A.length + C.length))).take (p + 2 * s) ++ pass k s (F.drop (p + 2 * s)) = Tt.take p ++ pass (k + 1) s (F.drop p) := by
  have hAl : A.length = m - p := by rw [hA]; simp; omega
  have hCl : C.length = e - m := by rw [hC]; simp; omega
  have hGl : G0.length = A.length + C.length := by rw [← hG]; exact mg_len _ _ _ (Nat.le_refl _)
  have hA2 : A = (F.drop p).take s := by
    rw [hA]
    by_cases h : p + s ≤ n
    · rw [show m - p = s from by omega]
    · rw [List.take_of_length_le (by simp; omega), List.take_of_length_le (by simp; omega)]
  have hC2 : C = ((F.drop p).drop s).take s := by
    rw [hC, List.drop_drop]
    by_cases h : p + s ≤ n
    · rw [show m = p + s from by omega]
      by_cases h2 : p + s + s ≤ n
      · rw [show e - (p + s) = s from by omega]
      · rw [List.take_of_length_le (by simp; omega), List.take_of_length_le (by simp; omega)]
    · rw [List.drop_eq_nil_of_le (by omega), List.drop_eq_nil_of_le (by omega)]
      simp
  refine ⟨hAl, hCl, ?_, ?_⟩
  · simp; omega
  · have hpl : (Tt.take p ++ G0).length = e := by simp; omega
    have ht : (Tt.take p ++ G0 ++ Tt.drop (p + (A.length + C.length))).take (p + 2 * s) = Tt.take p ++ G0 := by
      by_cases h : p + 2 * s ≤ n
      · rw [show p + 2 * s = (Tt.take p ++ G0).length from by omega, List.take_left]
      · rw [List.drop_eq_nil_of_le (by omega), List.append_nil, List.take_of_length_le (by omega)]
    rw [ht, pass, ← hA2, ← hC2, hG, List.drop_drop, List.append_assoc]

/-- Of those that are alike none comes ahead of another. -/
theorem mg_key (K : PR → Bool) (hK : ∀ x y, K x = true → K y = true → ls x y = false) : ∀ (k : Nat) (a b : List PR), a.length + b.length ≤ k → Srt a → Srt b → (mg k a b).filter K = a.filter K ++ b.filter K
  | 0, a, b, h, _, _ => by
    have ha : a = [] := List.eq_nil_of_length_eq_zero (by omega)
    have hb : b = [] := List.eq_nil_of_length_eq_zero (by omega)
    subst ha; subst hb; simp [mg]
  | k + 1, [], [], h, _, _ => by simp [mg]
  | k + 1, y :: a, [], h, ha, hb => by
    have ih := mg_key K hK k a [] (by simp at h ⊢; omega) (srt_cons.1 ha).2 hb
    rw [mg, List.filter_cons, List.filter_cons, ih]
    split <;> simp
  | k + 1, [], y :: b, h, ha, hb => by
    have ih := mg_key K hK k [] b (by simp at h ⊢; omega) ha (srt_cons.1 hb).2
    rw [mg, List.filter_cons, List.filter_cons, ih]
    split <;> simp
  | k + 1, y :: a, z :: b, h, ha, hb => by
    rw [mg]
    split
    · have ih := mg_key K hK k a (z :: b) (by simp at h ⊢; omega) (srt_cons.1 ha).2 hb
      rw [List.filter_cons, ih, List.filter_cons (x := y)]
      split <;> simp
    · rename_i hle
      have hzy : ls z y = true := not_le (by simpa using hle)
      have ih := mg_key K hK k (y :: a) b (by simp at h ⊢; omega) ha (srt_cons.1 hb).2
      rw [List.filter_cons, ih]
      cases hz : K z with
      | false => rw [List.filter_cons (x := z), hz]; simp
      | true =>
        have hno : (y :: a).filter K = [] := by
          rw [List.filter_eq_nil_iff]
          intro u hu hKu
          have h1 := hK z u hz hKu
          rcases List.mem_cons.1 hu with rfl | hu
          · rw [h1] at hzy; cases hzy
          · have h2 := (srt_cons.1 ha).1 u hu
            rw [ge_trans h2 h1] at hzy; cases hzy
        rw [hno, List.filter_cons (x := z), hz]
        simp
theorem pass_key (K : PR → Bool) (hK : ∀ x y, K x = true → K y = true → ls x y = false) (s : Nat) (hs : 0 < s) : ∀ (k : Nat) (F : List PR), F.length ≤ k → Ch s F → (pass k s F).filter K = F.filter K
  | 0, F, h, _ => by
    have : F = [] := List.eq_nil_of_length_eq_zero (by omega)
    subst this; simp [pass]
  | k + 1, F, h, hc => by
    have hc0 := hc 0
    have hc1 := hc 1
    rw [Nat.zero_mul, List.drop_zero] at hc0
    rw [Nat.one_mul] at hc1
    have hch : Ch s (F.drop (2 * s)) := by
      intro j
      rw [List.drop_drop, show 2 * s + j * s = (j + 2) * s from by rw [Nat.add_mul, Nat.add_comm]]
      exact hc (j + 2)
    rw [pass, List.filter_append, mg_key K hK _ _ _ (Nat.le_refl _) hc0 hc1, pass_key K hK s hs k _ (by simp; omega) hch, ← List.filter_append, ← List.filter_append, List.append_assoc]
    congr 1
    rw [show 2 * s = s + s by omega, ← List.drop_drop, List.take_append_drop, List.take_append_drop]
/-- What is in order so, each as it stood among its like, are the sorted rows. -/
theorem sorted {F F0 : List PR} (hS : Srt F) (hf : ∀ t q, F.filter (fun x => Rw.key t q (kr x)) = F0.filter (fun x => Rw.key t q (kr x))) (hm : ∀ x ∈ F, x.1.t = x.2.t ∧ x.1.q = x.2.q) (hm0 : ∀ x ∈ F0, x.1.t = x.2.t ∧ x.1.q = x.2.q) : F.map Prod.snd = Rw.sort (F0.map Prod.snd) := by
  have hk : ∀ x : PR, x.1.t = x.2.t ∧ x.1.q = x.2.q → ∀ t q, Rw.key t q (kr x) = Rw.key t q x.2 := fun x hx t q => by unfold Rw.key kr; simp only [hx.1, hx.2]
  have hfm : ∀ (L : List PR), (∀ x ∈ L, x.1.t = x.2.t ∧ x.1.q = x.2.q) → ∀ t q, (L.map Prod.snd).filter (Rw.key t q) = (L.filter (fun x => Rw.key t q (kr x))).map Prod.snd := by
    intro L hL t q
    rw [List.filter_map]
    congr 1
    apply List.filter_congr
    intro x hx
    exact (hk x (hL x hx) t q).symm
  refine Rw.sort_is ?_ fun t q => ?_
  · unfold Rw.Srt
    rw [List.pairwise_map]
    refine List.Pairwise.imp_of_mem ?_ hS
    intro x y hx hy h
    unfold ls kr at h
    rw [Rw.less_no] at h ⊢
    have h1 := hm x hx
    have h2 := hm y hy
    simp only at h
    omega
  · rw [hfm F hm, hfm F0 hm0, hf]
theorem key_alike (t q : Int) (x y : PR) (h1 : Rw.key t q (kr x) = true) (h2 : Rw.key t q (kr y) = true) : ls x y = false := by
  rw [Rw.key_iff] at h1 h2
  unfold ls
  rw [Rw.less_no]
  omega
end Ms
end Go.Proofs.Ytghnbohplonhoaa
namespace Go.Proofs.Ytghnbohplonhoaa
open Go.RowKit
set_option linter.unusedVariables false
set_option linter.unusedSimpArgs false
def pc (x : PR) : List Value := rc x.1
theorem pc_len (x : PR) : (pc x).length = 3 := rfl
/-- Rows in a block. -/
def WAt (w : World) (g : Nat) (l : List PR) : Prop := w.heap[g]? = some (.cells (flat pc l).toArray 28 (0, 0))
theorem WAt.lt {w : World} {g : Nat} {l : List PR} (h : WAt w g l) : g < w.heap.size := (Array.getElem?_eq_some_iff.1 h).1
theorem WAt.below {w w' : World} {g : Nat} {l : List PR} (h : WAt w g l) (hb : Below w.heap.size w w') : WAt w' g l := by
  unfold WAt; rw [hb.block g h.lt]; exact h
theorem WAt.farB {w w' : World} {g gT : Nat} {l : List PR} (h : WAt w g l) (hg : w.grownBy w' (some gT)) (hne : g ≠ gT) : WAt w' g l := by
  unfold WAt; rw [hg.block g h.lt (by simpa using hne)]; exact h
theorem WAt.cell {w : World} {g i j : Nat} {l : List PR} {x : PR} (h : WAt w g l) (hi : l[i]? = some x) (hj : j < 3) : w.cell? ⟨g, i * 3 + j, none⟩ = (pc x)[j]? := by
  rw [cell_of_row w g _ _ 28 (0, 0) h, List.getElem?_toArray, flat_get pc_len l i j x hi hj]
theorem WAt.frozen {w : World} {g : Nat} {l : List PR} (h : WAt w g l) (k : Nat) : w.frozen? ⟨g, k, none⟩ = false := frozen_of_row _ _ _ _ _ h
theorem WAt.set {w : World} {g i j k : Nat} {l : List PR} {x y : PR} {u : Value} (h : WAt w g l) (hi : l[i]? = some x) (hj : j < 3) (hk : k = i * 3 + j) (hy : (pc x).set j u = pc y) : WAt (w.setCell ⟨g, k, none⟩ u) g (l.set i y) := by
  subst hk
  unfold WAt
  rw [heap_setCell_same w g _ _ 28 _ h, List.setIfInBounds_toArray, flat_set pc_len l i j x y u hi hj hy]
theorem WAt.rd {w : World} {g n : Nat} {l : List PR} (h : WAt w g l) (hn : n = l.length) (hm : n ≤ 1000000) : RdW 3 pc w (some ⟨g, 0, none⟩) n l := by
  subst hn
  refine RdW.of_cells pc_len (Nat.le_refl _) (by unfold maxLen; omega) fun j u hu => ?_
  rw [cell_of_row w g _ _ 28 (0, 0) h, List.getElem?_toArray, Nat.zero_add]
  exact hu
/-- A row is stored into a place of a block. -/
abbrev rset (w : World) (g o : Nat) (v : RV) : World := ((w.setCell ⟨g, o, none⟩ (.int .i64 v.t)).setCell ⟨g, o + 1, none⟩ (.int .i64 v.q)).setCell ⟨g, o + 2, none⟩ (.slice v.s.1 v.s.2.1 v.s.2.2)
theorem WAt.rset {w : World} {g k o : Nat} {l : List PR} (h : WAt w g l) (hk : k < l.length) (ho : o = k * 3) (y : PR) {v : RV} (hv : v = y.1) : WAt (rset w g o v) g (l.set k y) := by
  subst ho
  subst hv
  obtain ⟨x, hx⟩ : ∃ x, l[k]? = some x := ⟨_, List.getElem?_eq_getElem hk⟩
  obtain ⟨⟨t, q, s⟩, r⟩ := x
  have h1 := h.set (k := k * 3) (u := .int .i64 y.1.t) (y := (⟨y.1.t, q, s⟩, r)) hx (show 0 < 3 by omega) rfl rfl
  have h2 := h1.set (i := k) (k := k * 3 + 1) (u := .int .i64 y.1.q) (x := (⟨y.1.t, q, s⟩, r)) (y := (⟨y.1.t, y.1.q, s⟩, r)) (by simp [hk]) (show 1 < 3 by omega) rfl rfl
  have h3 := h2.set (i := k) (k := k * 3 + 2) (u := .slice y.1.s.1 y.1.s.2.1 y.1.s.2.2) (x := (⟨y.1.t, y.1.q, s⟩, r)) (y := y) (by simp [hk]) (show 2 < 3 by omega) rfl rfl
  simpa using h3
theorem WAt.slot {w : World} {g k o : Nat} {l : List PR} (h : WAt w g l) (hk : k < l.length) (ho : o = k * 3) : (∃ o0 o1 o2, w.cell? ⟨g, o, none⟩ = some o0 ∧ w.cell? ⟨g, o + 1, none⟩ = some o1 ∧ w.cell? ⟨g, o + 2, none⟩ = some o2) ∧ w.frozen? ⟨g, o, none⟩ = false ∧ w.frozen? ⟨g, o + 1, none⟩ = false ∧ w.frozen? ⟨g, o + 2, none⟩ = false := by
  subst ho
  have hx : l[k]? = some l[k] := List.getElem?_eq_getElem hk
  exact ⟨⟨_, _, _, h.cell hx (show 0 < 3 by omega), h.cell hx (show 1 < 3 by omega), h.cell hx (show 2 < 3 by omega)⟩, h.frozen _, h.frozen _, h.frozen _⟩
theorem cell_set_other {w : World} {g b off k : Nat} {u v : Value} (h : w.cell? ⟨b, off, none⟩ = some u) (hne : b ≠ g) : (w.setCell ⟨g, k, none⟩ v).cell? ⟨b, off, none⟩ = some u := by
  rw [World.cell?_of_block (heap_setCell_other w _ b v (by simpa using hne))]
  exact h
theorem rset_cell {w : World} {g b off o : Nat} {v : RV} {u : Value} (h : w.cell? ⟨b, off, none⟩ = some u) (hne : b ≠ g) : (rset w g o v).cell? ⟨b, off, none⟩ = some u := cell_set_other (cell_set_other (cell_set_other h hne) hne) hne
theorem drew_grown {w wr : World} {row : Option Nat} (h : w.grownBy wr row) : w.grownBy wr.drew row := ⟨h.os, h.tape, h.output, h.size, h.block⟩
theorem set_grown {w wr : World} {g k : Nat} (h : w.grownBy wr (some g)) (v : Value) : w.grownBy (wr.setCell ⟨g, k, none⟩ v) (some g) :=
  h.trans ⟨rfl, rfl, rfl, by simp [World.setCell], fun j hj hne => Below.heap_setCell _ _ _ _ (by simpa using hne)⟩
theorem rset_grown {w wr : World} {g : Nat} (h : w.grownBy wr (some g)) (o : Nat) (v : RV) : w.grownBy (rset wr g o v) (some g) := set_grown (set_grown (set_grown h _) _) _
theorem Ex.grownBy {w w' : World} (h : Ex w w') (row : Option Nat) : w.grownBy w' row := ⟨h.os, h.tape, h.output, Below.size h, fun k hk _ => h.block k hk⟩
theorem set_mid {α : Type} (L Z : List α) (p i : Nat) (x : α) (hz : Z.length = i) (hp : p + i < L.length) : (L.take p ++ Z ++ L.drop (p + i)).set (p + i) x = L.take p ++ (Z ++ [x]) ++ L.drop (p + (i + 1)) := by
  have h1 : (L.take p ++ Z).length = p + i := by simp; omega
  rw [List.set_append_right _ _ (by omega), h1, Nat.sub_self, List.drop_eq_getElem_cons hp, List.set_cons_zero]
  simp [Nat.add_assoc]
theorem RdW.farB {α : Type} {k : Nat} {fl : α → List Value} {w w' : World} {a : Option Addr} {cap : Nat} {l : List α} {g : Nat} (h : RdW k fl w a cap l) (hg : w.grownBy w' (some g)) (hne : a.map (·.block) ≠ some g) : RdW k fl w' a cap l :=
  h.far hg fun _ b off e => by rw [e] at hne; intro hh; simp at hh hne; exact hne hh.symm
theorem RdW.none_' {α : Type} {k : Nat} {fl : α → List Value} (w : World) (a : Option Addr) : RdW k fl w a 0 [] := ⟨by simp, by simp [maxLen], fun _ => rfl, fun i x hi => by simp at hi⟩
theorem RdW.sub {α : Type} {k : Nat} {fl : α → List Value} {w : World} {a : Option Addr} {cap : Nat} {l : List α} (h : RdW k fl w a cap l) (j n : Nat) (hj : j + n ≤ l.length) : RdW k fl w (Option.map (fun x => x.add (j * k)) a) (cap - j) ((l.drop j).take n) := by
  cases a with
  | none =>
    have h0 := h.2.2.1 rfl
    have h1 := h.1
    have e : (l.drop j).take n = [] := List.eq_nil_of_length_eq_zero (by simp; omega)
    rw [e, h0]
    simp only [Option.map_none, Nat.zero_sub]
    exact RdW.none_' w none
  | some ad =>
    by_cases h0 : l.length = 0
    · have e : (l.drop j).take n = [] := List.eq_nil_of_length_eq_zero (by simp; omega)
      rw [e]
      exact ⟨by simp, by have := h.2.1; omega, by simp, fun i x hi => by simp at hi⟩
    · obtain ⟨b, off, e, _⟩ := h.at (i := 0) (by omega)
      simp only [Option.some.injEq] at e
      subst e
      rw [Option.map_some, add_none]
      exact (h.from j (by omega)).take n
theorem within_addW (a : Option Addr) (j : Nat) : (Option.map (fun x => x.add j) a).map (·.block) = a.map (·.block) := by
  cases a with
  | none => rfl
  | some x =>
    simp only [Option.map_some, Addr.add]
    split <;> rfl
/-- 's[j:k]' of rows. -/
theorem cut31p (a : Option Addr) (n cap j k : Nat) (hj : j ≤ k) (hk : k ≤ n) (hn : n ≤ cap) (hc : cap ≤ 9223372036854775807) : ∃ a', (∀ w, (Instr.sliceAt 31 (.slice a n cap) (some (.int .i64 (j : Int))) (some (.int .i64 (k : Int))) none).run Try.prog w = .ok (.slice a' (k - j) (cap - j)) w) ∧ (∀ w (l : List PR), l.length = n → RdW 3 pc w a cap l → RdW 3 pc w a' (cap - j) ((l.drop j).take (k - j))) ∧ a'.map (·.block) = a.map (·.block) := by
  have i0 : (j : Int) ≤ (k : Int) := by omega
  have i1 : (k : Int) ≤ (cap : Int) := by omega
  by_cases h : cap = j
  · refine ⟨a, fun w => ?_, fun w l hl hr => ?_, rfl⟩
    · have hkc : k = j := by omega
      subst h
      subst hkc
      go_simp
    · have e : (l.drop j).take (k - j) = [] := List.eq_nil_of_length_eq_zero (by simp; omega)
      rw [e, h, Nat.sub_self]
      exact RdW.none_' w a
  · refine ⟨a.map (fun x => x.add (j * 3)), fun w => ?_, fun w l hl hr => hr.sub j (k - j) (by omega), within_addW a _⟩
    have hne : ¬ cap - j = 0 := by omega
    have hne2 : ¬ cap = j := h
    go_simp
/-- 's[j:]' of rows. -/
theorem lo31p (a : Option Addr) (n cap j : Nat) (hj : j ≤ n) (hn : n ≤ cap) (hc : cap ≤ 9223372036854775807) : ∃ a', (∀ w, (Instr.sliceAt 31 (.slice a n cap) (some (.int .i64 (j : Int))) none none).run Try.prog w = .ok (.slice a' (n - j) (cap - j)) w) ∧ (∀ w (l : List PR), l.length = n → RdW 3 pc w a cap l → RdW 3 pc w a' (cap - j) (l.drop j)) ∧ a'.map (·.block) = a.map (·.block) := by
  have i0 : (j : Int) ≤ (n : Int) := by omega
  have i1 : (n : Int) ≤ (cap : Int) := by omega
  by_cases h : cap = j
  · refine ⟨a, fun w => ?_, fun w l hl hr => ?_, rfl⟩
    · have hkc : n = j := by omega
      subst h
      subst hkc
      go_simp
    · have e : l.drop j = [] := List.drop_eq_nil_of_le (by omega)
      rw [e, h, Nat.sub_self]
      exact RdW.none_' w a
  · refine ⟨a.map (fun x => x.add (j * 3)), fun w => ?_, fun w l hl hr => ?_, within_addW a _⟩
    · have hne : ¬ cap - j = 0 := by omega
      have hne2 : ¬ cap = j := h
      go_simp
    · have h2 := hr.sub j (n - j) (by omega)
      rwa [List.take_of_length_le (by simp; omega)] at h2
namespace Rg
theorem good_cut3 {P : Program} {ops : Array Oper} {specs : List Spec} {a0 : Act} {C : World → Prop} {E : World → World → Prop} {o : Oper} {t : TypeId} {x lo hi : Operand} {vx vl vh v : Value} (hrefl : ∀ w, E w w) (ho : o.op = .slice t x (some lo) (some hi) none) (hg : guardV ops specs a0 o = some true) (hx : argS ops specs a0 x = .inl vx) (hl : argS ops specs a0 lo = .inl vl) (hh : argS ops specs a0 hi = .inl vh)
    (h : ∀ w, (Instr.sliceAt t vx (some vl) (some vh) none).run P w = .ok v w) : GoodOp P ops specs a0 C E o (.inl v) :=
  good_val hrefl hg fun a w hC hs => by
    have h1 := hs x (by rw [ho]; simp [Op.operands])
    rw [hx] at h1
    have h3 := hs hi (by rw [ho]; simp [Op.operands])
    rw [hh] at h3
    have h4 := hs lo (by rw [ho]; simp [Op.operands])
    rw [hl] at h4
    simp only [Spec.ok] at h1 h3 h4
    refine ⟨v, ?_, rfl⟩
    unfold execOp
    rw [ho]
    simp only [Option.map_some, Option.map_none, h1, h3, h4, Sem.run_bind, Result.andThen, h w, Sem.run_pure]
theorem good_cut1 {P : Program} {ops : Array Oper} {specs : List Spec} {a0 : Act} {C : World → Prop} {E : World → World → Prop} {o : Oper} {t : TypeId} {x lo : Operand} {vx vl v : Value} (hrefl : ∀ w, E w w) (ho : o.op = .slice t x (some lo) none none) (hg : guardV ops specs a0 o = some true) (hx : argS ops specs a0 x = .inl vx) (hl : argS ops specs a0 lo = .inl vl)
    (h : ∀ w, (Instr.sliceAt t vx (some vl) none none).run P w = .ok v w) : GoodOp P ops specs a0 C E o (.inl v) :=
  good_val hrefl hg fun a w hC hs => by
    have h1 := hs x (by rw [ho]; simp [Op.operands])
    rw [hx] at h1
    have h4 := hs lo (by rw [ho]; simp [Op.operands])
    rw [hl] at h4
    simp only [Spec.ok] at h1 h4
    refine ⟨v, ?_, rfl⟩
    unfold execOp
    rw [ho]
    simp only [Option.map_some, Option.map_none, h1, h4, Sem.run_bind, Result.andThen, h w, Sem.run_pure]
end Rg
set_option maxRecDepth 100000 in
set_option maxHeartbeats 8000000 in
theorem join_is (gT p n capO : Nat) (Tt : List PR) (aA : Option Addr) (nA cA : Nat) (A : List PR) (aB : Option Addr) (nB cB : Nat) (B : List PR) (w : World)
    (hT : WAt w gT Tt) (hn : n = A.length + B.length) (hp : p + n ≤ Tt.length) (h5 : Tt.length ≤ 1000) (hnA : nA = A.length) (hnB : nB = B.length) (hA : RdW 3 pc w aA cA A) (hB : RdW 3 pc w aB cB B) (fA : aA.map (·.block) ≠ some gT) (fB : aB.map (·.block) ≠ some gT) (hO : n ≤ capO) (hO2 : capO ≤ maxLen)
    (G : List PR) (hG : Ms.mg (A.length + B.length) A B = G) :
    Calls Try.prog 53 #[.slice (some ⟨gT, p * 3, none⟩) n capO, .slice aA nA cA, .slice aB nB cB] w fun e w' => e = .returned (.tuple #[]) ∧ WAt w' gT (Tt.take p ++ G ++ Tt.drop (p + n)) ∧ w.grownBy w' (some gT) := by
  unfold maxLen at hO2
  have HN : Hid (n = A.length + B.length) := hn
  have HNA : Hid (nA = A.length) := hnA
  have HNB : Hid (nB = B.length) := hnB
  have h0A : Hid (RdW 3 pc w aA cA A) := hA
  have h0B : Hid (RdW 3 pc w aB cB B) := hB
  have h0F : Hid (aA.map (·.block) ≠ some gT) := fA
  have h0E : Hid (aB.map (·.block) ≠ some gT) := fB
  have h0G : Hid ([] ++ Ms.mg (A.length + B.length) A B = G) := hG
  have h0T : Hid (WAt w gT (Tt.take p ++ [] ++ Tt.drop (p + 0))) := (by simpa using hT : WAt w gT (Tt.take p ++ [] ++ Tt.drop (p + 0)))
  have hn5 : n ≤ 1000 := by omega
  clear hT hn hnA hnB hA hB fA fB hG
  go_enter Try.func53, Try.ntmps53
  go_wp2_with fail
  go_loopw [1, 2, 9, 6] (fun va vb vi vj wr => ∃ (i nx ny ka kb : Nat) (a2 b2 : Option Addr) (X Y Z : List PR), i ≤ n ∧ vi = .int .i64 (i : Int) ∧ va = .slice a2 nx ka ∧ vb = .slice b2 ny kb ∧ Hid (nx = X.length) ∧ Hid (ny = Y.length) ∧ Hid (X.length + Y.length = n - i) ∧ Hid (Z.length = i) ∧ Hid (RdW 3 pc wr a2 ka X) ∧ Hid (RdW 3 pc wr b2 kb Y) ∧ Hid (a2.map (·.block) ≠ some gT) ∧ Hid (b2.map (·.block) ≠ some gT) ∧ Hid (Z ++ Ms.mg (X.length + Y.length) X Y = G) ∧ Hid (WAt wr gT (Tt.take p ++ Z ++ Tt.drop (p + i))) ∧ Hid (w.grownBy wr (some gT))) (fun _ _ vi _ _ => n - (intOf vi).toNat)
  case atStart => exact ⟨0, nA, nB, cA, cB, aA, aB, A, B, [], by omega, rfl, rfl, rfl, HNA, HNB, (by rw [HN.out]; rfl : A.length + B.length = n - 0), (rfl : ([] : List PR).length = 0), h0A, h0B, h0F, h0E, h0G, h0T, World.grownBy.refl w _⟩
  case round =>
    obtain ⟨i, nx, ny, ka, kb, a2, b2, X, Y, Z, hi, rfl, rfl, rfl, HX, HY, HXY, HZ, HRX, HRY, HFX, HFY, HG, HRow, HGr⟩ := hrel
    clear h0A h0B h0F h0E h0G h0T HNA HNB HN
    by_cases hlt : i < n
    · have ti : decide ((i : Int) < (n : Int)) = true := by simp; omega
      have hkx := HRX.out.1
      have hky := HRY.out.1
      have hmx := HRX.out.2.1
      have hmy := HRY.out.2.1
      unfold maxLen at hmx hmy
      have hpi : p + i < Tt.length := by omega
      have hxy := HXY.out
      have hxl := HX.out
      have hyl := HY.out
      cases Y with
      | nil =>
        cases X with
        | nil => simp at hxy; omega
        | cons x X =>
          have hy0 : ny ≤ 0 := by rw [hyl]; simp
          have hx1 : 1 ≤ nx := by rw [hxl]; simp
          have hxk : nx ≤ ka := by rw [hxl]; exact hkx
          obtain ⟨qx, ox, rfl, hcz⟩ := HRX.out.at (show 0 < (x :: X).length by simp)
          obtain ⟨vx, xr⟩ := x
          have cx0 : wr.cell? ⟨qx, ox, none⟩ = some (.int .i64 vx.t) := by have h := hcz 0 _ rfl; simpa using h
          have cx1 : wr.cell? ⟨qx, ox + 1, none⟩ = some (.int .i64 vx.q) := by have h := hcz 1 _ rfl; simpa using h
          have cx2 : wr.cell? ⟨qx, ox + 2, none⟩ = some (.slice vx.s.1 vx.s.2.1 vx.s.2.2) := by have h := hcz 2 _ rfl; simpa using h
          clear hcz
          have hmg : Ms.mg (((vx, xr) :: X).length + ([] : List PR).length) ((vx, xr) :: X) ([] : List PR) = (vx, xr) :: Ms.mg (X.length + ([] : List PR).length) X ([] : List PR) := by
            have hf : ((vx, xr) :: X).length + ([] : List PR).length = (X.length + ([] : List PR).length) + 1 := by simp; try omega
            rw [hf]
            rfl
          have HG2 : Hid ((Z ++ [(vx, xr)]) ++ Ms.mg (X.length + ([] : List PR).length) X ([] : List PR) = G) := (by have := HG.out; rw [hmg] at this; rw [List.append_assoc]; exact this : (Z ++ [(vx, xr)]) ++ Ms.mg (X.length + ([] : List PR).length) X ([] : List PR) = G)
          have HXY2 : Hid (X.length + ([] : List PR).length = n - (i + 1)) := (by simp at hxy ⊢; omega : X.length + ([] : List PR).length = n - (i + 1))
          obtain ⟨a3, hcut, hcr, hcw⟩ := lo31p (some ⟨qx, ox, none⟩) nx ka 1 (by omega) (by omega) (by omega)
          have HCUT : Hid (∀ w, (Instr.sliceAt 31 (.slice (some ⟨qx, ox, none⟩) nx ka) (some (.int .i64 1)) none none).run Try.prog w = .ok (.slice a3 (nx - 1) (ka - 1)) w) := hcut
          have HNN : Hid (nx - 1 = X.length) := (by have := HX.out; simp at this; omega : nx - 1 = X.length)
          have HR2 : Hid (RdW 3 pc wr a3 (ka - 1) X) := (by have h := hcr wr ((vx, xr) :: X) (by have := HX.out; simp at this ⊢; omega) HRX.out; simpa using h : RdW 3 pc wr a3 (ka - 1) X)
          have HF2 : Hid (a3.map (·.block) ≠ some gT) := (by rw [show a3.map (·.block) = _ from hcw]; exact HFX.out : a3.map (·.block) ≠ some gT)
          have HQ : Hid (qx ≠ gT) := (by have := HFX.out; simpa using this : qx ≠ gT)
          have HZ2 : Hid ((Z ++ [(vx, xr)]).length = i + 1) := (by have := HZ.out; simp; exact this : (Z ++ [(vx, xr)]).length = i + 1)
          clear hcut hcr hcw
          have HRX : True := trivial
          clear hmg hxy hxl hyl HG hkx hky HRX
          go_upto_region 3 with fail
          have hre := Ex.refl
          refine Rg.wp_rows [.inl (.slice b2 ny kb), .inl (.int .i64 (ny : Int)), .inl (.bool true), .inl (.bool true), .inl undef, .inl undef, .inl undef, .inl undef, .inl undef, .inl undef, .inl undef, .inl undef, .inl undef, .inl undef, .inl undef, .inl undef, .inl undef, .inl (.bool true)] (Ex wr) Ex 47 (by kernel_rfl) rfl (by kernel_rfl) ?st hre (Ex.drew _) ?goods ?fin
          case st => exact trivial
          case goods =>
            refine Rg.goods_cons (Rg.good_move hre rfl rfl rfl) ?_
            refine Rg.goods_cons (Rg.good_len hre rfl rfl (by rintro u wx hC rfl; go_simp)) ?_
            refine Rg.goods_cons (Rg.good_bin hre rfl rfl rfl rfl (fun _ => rfl) (fun w => by first | (go_simp; done) | (simp [go_sem]; omega))) ?_
            refine Rg.goods_cons (Rg.good_move hre rfl rfl rfl) ?_
            refine Rg.goods_cons (Rg.good_skip rfl) ?_
            refine Rg.goods_cons (Rg.good_skip rfl) ?_
            refine Rg.goods_cons (Rg.good_skip rfl) ?_
            refine Rg.goods_cons (Rg.good_skip rfl) ?_
            refine Rg.goods_cons (Rg.good_skip rfl) ?_
            refine Rg.goods_cons (Rg.good_skip rfl) ?_
            refine Rg.goods_cons (Rg.good_skip rfl) ?_
            refine Rg.goods_cons (Rg.good_skip rfl) ?_
            refine Rg.goods_cons (Rg.good_skip rfl) ?_
            refine Rg.goods_cons (Rg.good_skip rfl) ?_
            refine Rg.goods_cons (Rg.good_skip rfl) ?_
            refine Rg.goods_cons (Rg.good_skip rfl) ?_
            refine Rg.goods_cons (Rg.good_skip rfl) ?_
            refine Rg.goods_cons (Rg.good_pick true hre rfl rfl rfl rfl) ?_
            exact Rg.goods_nil
          case fin =>
            intro wx hx
            simp only [Rg.later, Act.put, List.setIfInBounds_toArray, List.set_cons_succ, List.set_cons_zero]
            clear hre
            have HRx : Hid (WAt wx gT (Tt.take p ++ Z ++ Tt.drop (p + i))) := HRow.out.below hx
            have HXx : Hid (Ex wr wx) := hx
            have e0 := cell_ex cx0 hx
            have e1 := cell_ex cx1 hx
            have e2 := cell_ex cx2 hx
            have hst := HRx.out.slot (k := p + i) (o := p * 3 + i * 3) (by have := HZ.out; simp; omega) (by omega)
            obtain ⟨⟨o0, o1, o2, hs0, hs1, hs2⟩, hf0, hf1, hf2⟩ := hst
            have hcut := HCUT.out
            clear hx HCUT
            go_wp2_with fail
            go_region
            have HGw : Hid (wr.grownBy (rset wx gT (p * 3 + i * 3) vx).drew (some gT)) := (drew_grown (rset_grown (HXx.out.grownBy (some gT)) _ _) : wr.grownBy (rset wx gT (p * 3 + i * 3) vx).drew (some gT))
            have HRw : Hid (WAt (rset wx gT (p * 3 + i * 3) vx).drew gT (Tt.take p ++ (Z ++ [(vx, xr)]) ++ Tt.drop (p + (i + 1)))) := (by rw [← set_mid Tt Z p i (vx, xr) HZ.out hpi]; exact WAt.rset (k := p + i) HRx.out (by have := HZ.out; simp; omega) (by omega) (vx, xr) rfl : WAt (rset wx gT (p * 3 + i * 3) vx) gT (Tt.take p ++ (Z ++ [(vx, xr)]) ++ Tt.drop (p + (i + 1))))
            clear hs0 hs1 hs2 hf0 hf1 hf2 e0 e1 e2 hcut
            generalize (rset wx gT (p * 3 + i * 3) vx).drew = wz at HGw HRw ⊢
            go_wp2
            go_roundw
            case rel => exact ⟨i + 1, nx - 1, ny, ka - 1, kb, a3, b2, X, ([] : List PR), Z ++ [(vx, xr)], by omega, by go_num, rfl, rfl, HNN, HY, HXY2, HZ2, HR2.out.farB HGw.out HF2.out, HRY.out.farB HGw.out HFY.out, HF2, HFY, HG2, HRw, HGr.out.trans HGw.out⟩
            case measure => simp [intOf]; omega
      | cons y Y =>
        have hy1 : 1 ≤ ny := by rw [hyl]; simp
        have hyk : ny ≤ kb := by rw [hyl]; exact hky
        obtain ⟨qy, oy, rfl, hcz⟩ := HRY.out.at (show 0 < (y :: Y).length by simp)
        obtain ⟨vy, yr⟩ := y
        have cy0 : wr.cell? ⟨qy, oy, none⟩ = some (.int .i64 vy.t) := by have h := hcz 0 _ rfl; simpa using h
        have cy1 : wr.cell? ⟨qy, oy + 1, none⟩ = some (.int .i64 vy.q) := by have h := hcz 1 _ rfl; simpa using h
        have cy2 : wr.cell? ⟨qy, oy + 2, none⟩ = some (.slice vy.s.1 vy.s.2.1 vy.s.2.2) := by have h := hcz 2 _ rfl; simpa using h
        clear hcz
        cases X with
        | nil =>
          have hx0 : nx ≤ 0 := by rw [hxl]; simp
          have hmg : Ms.mg (([] : List PR).length + ((vy, yr) :: Y).length) ([] : List PR) ((vy, yr) :: Y) = (vy, yr) :: Ms.mg (([] : List PR).length + Y.length) ([] : List PR) Y := by
            have hf : ([] : List PR).length + ((vy, yr) :: Y).length = (([] : List PR).length + Y.length) + 1 := by simp; try omega
            rw [hf]
            rfl
          have HG2 : Hid ((Z ++ [(vy, yr)]) ++ Ms.mg (([] : List PR).length + Y.length) ([] : List PR) Y = G) := (by have := HG.out; rw [hmg] at this; rw [List.append_assoc]; exact this : (Z ++ [(vy, yr)]) ++ Ms.mg (([] : List PR).length + Y.length) ([] : List PR) Y = G)
          have HXY2 : Hid (([] : List PR).length + Y.length = n - (i + 1)) := (by simp at hxy ⊢; omega : ([] : List PR).length + Y.length = n - (i + 1))
          obtain ⟨b3, hcut, hcr, hcw⟩ := lo31p (some ⟨qy, oy, none⟩) ny kb 1 (by omega) (by omega) (by omega)
          have HCUT : Hid (∀ w, (Instr.sliceAt 31 (.slice (some ⟨qy, oy, none⟩) ny kb) (some (.int .i64 1)) none none).run Try.prog w = .ok (.slice b3 (ny - 1) (kb - 1)) w) := hcut
          have HNN : Hid (ny - 1 = Y.length) := (by have := HY.out; simp at this; omega : ny - 1 = Y.length)
          have HR2 : Hid (RdW 3 pc wr b3 (kb - 1) Y) := (by have h := hcr wr ((vy, yr) :: Y) (by have := HY.out; simp at this ⊢; omega) HRY.out; simpa using h : RdW 3 pc wr b3 (kb - 1) Y)
          have HF2 : Hid (b3.map (·.block) ≠ some gT) := (by rw [show b3.map (·.block) = _ from hcw]; exact HFY.out : b3.map (·.block) ≠ some gT)
          have HQ : Hid (qy ≠ gT) := (by have := HFY.out; simpa using this : qy ≠ gT)
          have HZ2 : Hid ((Z ++ [(vy, yr)]).length = i + 1) := (by have := HZ.out; simp; exact this : (Z ++ [(vy, yr)]).length = i + 1)
          clear hcut hcr hcw
          have HRY : True := trivial
          clear hmg hxy hxl hyl HG hkx hky HRY
          go_upto_region 3 with fail
          have hre := Ex.refl
          refine Rg.wp_rows [.inl (.slice (some ⟨qy, oy, none⟩) ny kb), .inl (.int .i64 (ny : Int)), .inl (.bool false), .inl (.bool false), .inl (.slice a2 nx ka), .inl (.int .i64 (nx : Int)), .inl (.bool false), .inl (.bool false), .inl undef, .inl undef, .inl undef, .inl undef, .inl undef, .inl undef, .inl undef, .inl undef, .inl (.bool false), .inl (.bool false)] (Ex wr) Ex 47 (by kernel_rfl) rfl (by kernel_rfl) ?st hre (Ex.drew _) ?goods ?fin
          case st => exact trivial
          case goods =>
            refine Rg.goods_cons (Rg.good_move hre rfl rfl rfl) ?_
            refine Rg.goods_cons (Rg.good_len hre rfl rfl (by rintro u wx hC rfl; go_simp)) ?_
            refine Rg.goods_cons (Rg.good_bin hre rfl rfl rfl rfl (fun _ => rfl) (fun w => by first | (go_simp; done) | (simp [go_sem]; omega))) ?_
            refine Rg.goods_cons (Rg.good_move hre rfl rfl rfl) ?_
            refine Rg.goods_cons (Rg.good_move hre rfl rfl rfl) ?_
            refine Rg.goods_cons (Rg.good_len hre rfl rfl (by rintro u wx hC rfl; go_simp)) ?_
            refine Rg.goods_cons (Rg.good_bin hre rfl rfl rfl rfl (fun _ => rfl) (fun w => by first | (go_simp; done) | (simp [go_sem]; omega))) ?_
            refine Rg.goods_cons (Rg.good_move hre rfl rfl rfl) ?_
            refine Rg.goods_cons (Rg.good_skip rfl) ?_
            refine Rg.goods_cons (Rg.good_skip rfl) ?_
            refine Rg.goods_cons (Rg.good_skip rfl) ?_
            refine Rg.goods_cons (Rg.good_skip rfl) ?_
            refine Rg.goods_cons (Rg.good_skip rfl) ?_
            refine Rg.goods_cons (Rg.good_skip rfl) ?_
            refine Rg.goods_cons (Rg.good_skip rfl) ?_
            refine Rg.goods_cons (Rg.good_skip rfl) ?_
            refine Rg.goods_cons (Rg.good_pick false hre rfl rfl rfl rfl) ?_
            refine Rg.goods_cons (Rg.good_pick false hre rfl rfl rfl rfl) ?_
            exact Rg.goods_nil
          case fin =>
            intro wx hx
            simp only [Rg.later, Act.put, List.setIfInBounds_toArray, List.set_cons_succ, List.set_cons_zero]
            clear hre
            have HRx : Hid (WAt wx gT (Tt.take p ++ Z ++ Tt.drop (p + i))) := HRow.out.below hx
            have HXx : Hid (Ex wr wx) := hx
            have e0 := cell_ex cy0 hx
            have e1 := cell_ex cy1 hx
            have e2 := cell_ex cy2 hx
            have hst := HRx.out.slot (k := p + i) (o := p * 3 + i * 3) (by have := HZ.out; simp; omega) (by omega)
            obtain ⟨⟨o0, o1, o2, hs0, hs1, hs2⟩, hf0, hf1, hf2⟩ := hst
            have hcut := HCUT.out
            clear hx HCUT
            go_wp2_with fail
            go_region
            have HGw : Hid (wr.grownBy (rset wx gT (p * 3 + i * 3) vy).drew (some gT)) := (drew_grown (rset_grown (HXx.out.grownBy (some gT)) _ _) : wr.grownBy (rset wx gT (p * 3 + i * 3) vy).drew (some gT))
            have HRw : Hid (WAt (rset wx gT (p * 3 + i * 3) vy).drew gT (Tt.take p ++ (Z ++ [(vy, yr)]) ++ Tt.drop (p + (i + 1)))) := (by rw [← set_mid Tt Z p i (vy, yr) HZ.out hpi]; exact WAt.rset (k := p + i) HRx.out (by have := HZ.out; simp; omega) (by omega) (vy, yr) rfl : WAt (rset wx gT (p * 3 + i * 3) vy) gT (Tt.take p ++ (Z ++ [(vy, yr)]) ++ Tt.drop (p + (i + 1))))
            clear hs0 hs1 hs2 hf0 hf1 hf2 e0 e1 e2 hcut
            generalize (rset wx gT (p * 3 + i * 3) vy).drew = wz at HGw HRw ⊢
            go_wp2
            go_roundw
            case rel => exact ⟨i + 1, nx, ny - 1, ka, kb - 1, a2, b3, ([] : List PR), Y, Z ++ [(vy, yr)], by omega, by go_num, rfl, rfl, HX, HNN, HXY2, HZ2, HRX.out.farB HGw.out HFX.out, HR2.out.farB HGw.out HF2.out, HFX, HF2, HG2, HRw, HGr.out.trans HGw.out⟩
            case measure => simp [intOf]; omega
        | cons x X =>
          have hx1 : 1 ≤ nx := by rw [hxl]; simp
          have hxk : nx ≤ ka := by rw [hxl]; exact hkx
          obtain ⟨qx, ox, rfl, hcz⟩ := HRX.out.at (show 0 < (x :: X).length by simp)
          obtain ⟨vx, xr⟩ := x
          have cx0 : wr.cell? ⟨qx, ox, none⟩ = some (.int .i64 vx.t) := by have h := hcz 0 _ rfl; simpa using h
          have cx1 : wr.cell? ⟨qx, ox + 1, none⟩ = some (.int .i64 vx.q) := by have h := hcz 1 _ rfl; simpa using h
          have cx2 : wr.cell? ⟨qx, ox + 2, none⟩ = some (.slice vx.s.1 vx.s.2.1 vx.s.2.2) := by have h := hcz 2 _ rfl; simpa using h
          clear hcz
          obtain ⟨lt, hlt2⟩ : ∃ b, Rw.less ⟨vy.t, vy.q, []⟩ ⟨vx.t, vx.q, []⟩ = b := ⟨_, rfl⟩
          have HLT : Hid (Rw.less ⟨vy.t, vy.q, []⟩ ⟨vx.t, vx.q, []⟩ = lt) := hlt2
          have hle : Ms.le (vx, xr) (vy, yr) = !lt := by rw [← hlt2]; rfl
          clear hlt2
          cases lt with
          | false =>
            have hmg : Ms.mg (((vx, xr) :: X).length + ((vy, yr) :: Y).length) ((vx, xr) :: X) ((vy, yr) :: Y) = (vx, xr) :: Ms.mg (X.length + ((vy, yr) :: Y).length) X ((vy, yr) :: Y) := by
              have hf : ((vx, xr) :: X).length + ((vy, yr) :: Y).length = (X.length + ((vy, yr) :: Y).length) + 1 := by simp; try omega
              rw [hf]
              show (if Ms.le (vx, xr) (vy, yr) = true then _ else _) = _
              rw [if_pos (by rw [hle]; rfl)]
            have HG2 : Hid ((Z ++ [(vx, xr)]) ++ Ms.mg (X.length + ((vy, yr) :: Y).length) X ((vy, yr) :: Y) = G) := (by have := HG.out; rw [hmg] at this; rw [List.append_assoc]; exact this : (Z ++ [(vx, xr)]) ++ Ms.mg (X.length + ((vy, yr) :: Y).length) X ((vy, yr) :: Y) = G)
            have HXY2 : Hid (X.length + ((vy, yr) :: Y).length = n - (i + 1)) := (by simp at hxy ⊢; omega : X.length + ((vy, yr) :: Y).length = n - (i + 1))
            obtain ⟨a3, hcut, hcr, hcw⟩ := lo31p (some ⟨qx, ox, none⟩) nx ka 1 (by omega) (by omega) (by omega)
            have HCUT : Hid (∀ w, (Instr.sliceAt 31 (.slice (some ⟨qx, ox, none⟩) nx ka) (some (.int .i64 1)) none none).run Try.prog w = .ok (.slice a3 (nx - 1) (ka - 1)) w) := hcut
            have HNN : Hid (nx - 1 = X.length) := (by have := HX.out; simp at this; omega : nx - 1 = X.length)
            have HR2 : Hid (RdW 3 pc wr a3 (ka - 1) X) := (by have h := hcr wr ((vx, xr) :: X) (by have := HX.out; simp at this ⊢; omega) HRX.out; simpa using h : RdW 3 pc wr a3 (ka - 1) X)
            have HF2 : Hid (a3.map (·.block) ≠ some gT) := (by rw [show a3.map (·.block) = _ from hcw]; exact HFX.out : a3.map (·.block) ≠ some gT)
            have HQ : Hid (qx ≠ gT) := (by have := HFX.out; simpa using this : qx ≠ gT)
            have HZ2 : Hid ((Z ++ [(vx, xr)]).length = i + 1) := (by have := HZ.out; simp; exact this : (Z ++ [(vx, xr)]).length = i + 1)
            clear hcut hcr hcw
            have HRX : True := trivial
            clear hmg hxy hxl hyl HG hkx hky HRX hle
            go_upto_region 3 with fail
            have hre := Ex.refl
            refine Rg.wp_rows [.inl (.slice (some ⟨qy, oy, none⟩) ny kb), .inl (.int .i64 (ny : Int)), .inl (.bool false), .inl (.bool false), .inl (.slice (some ⟨qx, ox, none⟩) nx ka), .inl (.int .i64 (nx : Int)), .inl (.bool true), .inl (.bool true), .inl (.slice (some ⟨qy, oy, none⟩) ny kb), .inl (.pointer (some ⟨qy, oy, none⟩)), .inl (rvv vy), .inl (.slice (some ⟨qx, ox, none⟩) nx ka), .inl (.pointer (some ⟨qx, ox, none⟩)), .inl (rvv vx), .inl (.bool false), .inl (.bool true), .inl (.bool true), .inl (.bool true)] (Ex wr) Ex 47 (by kernel_rfl) rfl (by kernel_rfl) ?st hre (Ex.drew _) ?goods ?fin
            case st => exact trivial
            case goods =>
              refine Rg.goods_cons (Rg.good_move hre rfl rfl rfl) ?_
              refine Rg.goods_cons (Rg.good_len hre rfl rfl (by rintro u wx hC rfl; go_simp)) ?_
              refine Rg.goods_cons (Rg.good_bin hre rfl rfl rfl rfl (fun _ => rfl) (fun w => by first | (go_simp; done) | (simp [go_sem]; omega))) ?_
              refine Rg.goods_cons (Rg.good_move hre rfl rfl rfl) ?_
              refine Rg.goods_cons (Rg.good_move hre rfl rfl rfl) ?_
              refine Rg.goods_cons (Rg.good_len hre rfl rfl (by rintro u wx hC rfl; go_simp)) ?_
              refine Rg.goods_cons (Rg.good_bin hre rfl rfl rfl rfl (fun _ => rfl) (fun w => by first | (go_simp; done) | (simp [go_sem]; omega))) ?_
              refine Rg.goods_cons (Rg.good_move hre rfl rfl rfl) ?_
              refine Rg.goods_cons (Rg.good_move hre rfl rfl rfl) ?_
              refine Rg.goods_cons (Rg.good_index hre rfl rfl rfl rfl (fun wx hC => by first | (go_simp; done) | (go_simp; omega))) ?_
              refine Rg.goods_cons (Rg.good_load hre rfl rfl rfl (fun wx hC => by exact loadI_row (cell_ex cy0 hC) (cell_ex cy1 hC) (cell_ex cy2 hC))) ?_
              refine Rg.goods_cons (Rg.good_move hre rfl rfl rfl) ?_
              refine Rg.goods_cons (Rg.good_index hre rfl rfl rfl rfl (fun wx hC => by first | (go_simp; done) | (go_simp; omega))) ?_
              refine Rg.goods_cons (Rg.good_load hre rfl rfl rfl (fun wx hC => by exact loadI_row (cell_ex cx0 hC) (cell_ex cx1 hC) (cell_ex cx2 hC))) ?_
              refine Rg.goods_cons (Rg.good_call2 Try.func33 (by kernel_rfl) rfl rfl rfl (by rintro u u2 wx hC rfl rfl; exact ex_row (sless_is vy vx ⟨vy.t, vy.q, []⟩ ⟨vx.t, vx.q, []⟩ wx ⟨rfl, rfl⟩ ⟨rfl, rfl⟩ false HLT.out) hC)) ?_
              refine Rg.goods_cons (Rg.good_un hre rfl rfl rfl (fun w => by go_simp)) ?_
              refine Rg.goods_cons (Rg.good_pick true hre rfl rfl rfl rfl) ?_
              refine Rg.goods_cons (Rg.good_pick false hre rfl rfl rfl rfl) ?_
              exact Rg.goods_nil
            case fin =>
              intro wx hx
              simp only [Rg.later, Act.put, List.setIfInBounds_toArray, List.set_cons_succ, List.set_cons_zero]
              clear hre
              have HRx : Hid (WAt wx gT (Tt.take p ++ Z ++ Tt.drop (p + i))) := HRow.out.below hx
              have HXx : Hid (Ex wr wx) := hx
              have e0 := cell_ex cx0 hx
              have e1 := cell_ex cx1 hx
              have e2 := cell_ex cx2 hx
              have hst := HRx.out.slot (k := p + i) (o := p * 3 + i * 3) (by have := HZ.out; simp; omega) (by omega)
              obtain ⟨⟨o0, o1, o2, hs0, hs1, hs2⟩, hf0, hf1, hf2⟩ := hst
              have hcut := HCUT.out
              clear hx HCUT
              go_wp2_with fail
              go_region
              have HGw : Hid (wr.grownBy (rset wx gT (p * 3 + i * 3) vx).drew (some gT)) := (drew_grown (rset_grown (HXx.out.grownBy (some gT)) _ _) : wr.grownBy (rset wx gT (p * 3 + i * 3) vx).drew (some gT))
              have HRw : Hid (WAt (rset wx gT (p * 3 + i * 3) vx).drew gT (Tt.take p ++ (Z ++ [(vx, xr)]) ++ Tt.drop (p + (i + 1)))) := (by rw [← set_mid Tt Z p i (vx, xr) HZ.out hpi]; exact WAt.rset (k := p + i) HRx.out (by have := HZ.out; simp; omega) (by omega) (vx, xr) rfl : WAt (rset wx gT (p * 3 + i * 3) vx) gT (Tt.take p ++ (Z ++ [(vx, xr)]) ++ Tt.drop (p + (i + 1))))
              clear hs0 hs1 hs2 hf0 hf1 hf2 e0 e1 e2 hcut
              generalize (rset wx gT (p * 3 + i * 3) vx).drew = wz at HGw HRw ⊢
              go_wp2
              go_roundw
              case rel => exact ⟨i + 1, nx - 1, ny, ka - 1, kb, a3, some ⟨qy, oy, none⟩, X, ((vy, yr) :: Y), Z ++ [(vx, xr)], by omega, by go_num, rfl, rfl, HNN, HY, HXY2, HZ2, HR2.out.farB HGw.out HF2.out, HRY.out.farB HGw.out HFY.out, HF2, HFY, HG2, HRw, HGr.out.trans HGw.out⟩
              case measure => simp [intOf]; omega
          | true =>
            have hmg : Ms.mg (((vx, xr) :: X).length + ((vy, yr) :: Y).length) ((vx, xr) :: X) ((vy, yr) :: Y) = (vy, yr) :: Ms.mg (((vx, xr) :: X).length + Y.length) ((vx, xr) :: X) Y := by
              have hf : ((vx, xr) :: X).length + ((vy, yr) :: Y).length = (((vx, xr) :: X).length + Y.length) + 1 := by simp; try omega
              rw [hf]
              show (if Ms.le (vx, xr) (vy, yr) = true then _ else _) = _
              rw [if_neg (by rw [hle]; simp)]
            have HG2 : Hid ((Z ++ [(vy, yr)]) ++ Ms.mg (((vx, xr) :: X).length + Y.length) ((vx, xr) :: X) Y = G) := (by have := HG.out; rw [hmg] at this; rw [List.append_assoc]; exact this : (Z ++ [(vy, yr)]) ++ Ms.mg (((vx, xr) :: X).length + Y.length) ((vx, xr) :: X) Y = G)
            have HXY2 : Hid (((vx, xr) :: X).length + Y.length = n - (i + 1)) := (by simp at hxy ⊢; omega : ((vx, xr) :: X).length + Y.length = n - (i + 1))
            obtain ⟨b3, hcut, hcr, hcw⟩ := lo31p (some ⟨qy, oy, none⟩) ny kb 1 (by omega) (by omega) (by omega)
            have HCUT : Hid (∀ w, (Instr.sliceAt 31 (.slice (some ⟨qy, oy, none⟩) ny kb) (some (.int .i64 1)) none none).run Try.prog w = .ok (.slice b3 (ny - 1) (kb - 1)) w) := hcut
            have HNN : Hid (ny - 1 = Y.length) := (by have := HY.out; simp at this; omega : ny - 1 = Y.length)
            have HR2 : Hid (RdW 3 pc wr b3 (kb - 1) Y) := (by have h := hcr wr ((vy, yr) :: Y) (by have := HY.out; simp at this ⊢; omega) HRY.out; simpa using h : RdW 3 pc wr b3 (kb - 1) Y)
            have HF2 : Hid (b3.map (·.block) ≠ some gT) := (by rw [show b3.map (·.block) = _ from hcw]; exact HFY.out : b3.map (·.block) ≠ some gT)
            have HQ : Hid (qy ≠ gT) := (by have := HFY.out; simpa using this : qy ≠ gT)
            have HZ2 : Hid ((Z ++ [(vy, yr)]).length = i + 1) := (by have := HZ.out; simp; exact this : (Z ++ [(vy, yr)]).length = i + 1)
            clear hcut hcr hcw
            have HRY : True := trivial
            clear hmg hxy hxl hyl HG hkx hky HRY hle
            go_upto_region 3 with fail
            have hre := Ex.refl
            refine Rg.wp_rows [.inl (.slice (some ⟨qy, oy, none⟩) ny kb), .inl (.int .i64 (ny : Int)), .inl (.bool false), .inl (.bool false), .inl (.slice (some ⟨qx, ox, none⟩) nx ka), .inl (.int .i64 (nx : Int)), .inl (.bool true), .inl (.bool true), .inl (.slice (some ⟨qy, oy, none⟩) ny kb), .inl (.pointer (some ⟨qy, oy, none⟩)), .inl (rvv vy), .inl (.slice (some ⟨qx, ox, none⟩) nx ka), .inl (.pointer (some ⟨qx, ox, none⟩)), .inl (rvv vx), .inl (.bool true), .inl (.bool false), .inl (.bool false), .inl (.bool false)] (Ex wr) Ex 47 (by kernel_rfl) rfl (by kernel_rfl) ?st hre (Ex.drew _) ?goods ?fin
            case st => exact trivial
            case goods =>
              refine Rg.goods_cons (Rg.good_move hre rfl rfl rfl) ?_
              refine Rg.goods_cons (Rg.good_len hre rfl rfl (by rintro u wx hC rfl; go_simp)) ?_
              refine Rg.goods_cons (Rg.good_bin hre rfl rfl rfl rfl (fun _ => rfl) (fun w => by first | (go_simp; done) | (simp [go_sem]; omega))) ?_
              refine Rg.goods_cons (Rg.good_move hre rfl rfl rfl) ?_
              refine Rg.goods_cons (Rg.good_move hre rfl rfl rfl) ?_
              refine Rg.goods_cons (Rg.good_len hre rfl rfl (by rintro u wx hC rfl; go_simp)) ?_
              refine Rg.goods_cons (Rg.good_bin hre rfl rfl rfl rfl (fun _ => rfl) (fun w => by first | (go_simp; done) | (simp [go_sem]; omega))) ?_
              refine Rg.goods_cons (Rg.good_move hre rfl rfl rfl) ?_
              refine Rg.goods_cons (Rg.good_move hre rfl rfl rfl) ?_
              refine Rg.goods_cons (Rg.good_index hre rfl rfl rfl rfl (fun wx hC => by first | (go_simp; done) | (go_simp; omega))) ?_
              refine Rg.goods_cons (Rg.good_load hre rfl rfl rfl (fun wx hC => by exact loadI_row (cell_ex cy0 hC) (cell_ex cy1 hC) (cell_ex cy2 hC))) ?_
              refine Rg.goods_cons (Rg.good_move hre rfl rfl rfl) ?_
              refine Rg.goods_cons (Rg.good_index hre rfl rfl rfl rfl (fun wx hC => by first | (go_simp; done) | (go_simp; omega))) ?_
              refine Rg.goods_cons (Rg.good_load hre rfl rfl rfl (fun wx hC => by exact loadI_row (cell_ex cx0 hC) (cell_ex cx1 hC) (cell_ex cx2 hC))) ?_
              refine Rg.goods_cons (Rg.good_call2 Try.func33 (by kernel_rfl) rfl rfl rfl (by rintro u u2 wx hC rfl rfl; exact ex_row (sless_is vy vx ⟨vy.t, vy.q, []⟩ ⟨vx.t, vx.q, []⟩ wx ⟨rfl, rfl⟩ ⟨rfl, rfl⟩ true HLT.out) hC)) ?_
              refine Rg.goods_cons (Rg.good_un hre rfl rfl rfl (fun w => by go_simp)) ?_
              refine Rg.goods_cons (Rg.good_pick true hre rfl rfl rfl rfl) ?_
              refine Rg.goods_cons (Rg.good_pick false hre rfl rfl rfl rfl) ?_
              exact Rg.goods_nil
            case fin =>
              intro wx hx
              simp only [Rg.later, Act.put, List.setIfInBounds_toArray, List.set_cons_succ, List.set_cons_zero]
              clear hre
              have HRx : Hid (WAt wx gT (Tt.take p ++ Z ++ Tt.drop (p + i))) := HRow.out.below hx
              have HXx : Hid (Ex wr wx) := hx
              have e0 := cell_ex cy0 hx
              have e1 := cell_ex cy1 hx
              have e2 := cell_ex cy2 hx
              have hst := HRx.out.slot (k := p + i) (o := p * 3 + i * 3) (by have := HZ.out; simp; omega) (by omega)
              obtain ⟨⟨o0, o1, o2, hs0, hs1, hs2⟩, hf0, hf1, hf2⟩ := hst
              have hcut := HCUT.out
              clear hx HCUT
              go_wp2_with fail
              go_region
              have HGw : Hid (wr.grownBy (rset wx gT (p * 3 + i * 3) vy).drew (some gT)) := (drew_grown (rset_grown (HXx.out.grownBy (some gT)) _ _) : wr.grownBy (rset wx gT (p * 3 + i * 3) vy).drew (some gT))
              have HRw : Hid (WAt (rset wx gT (p * 3 + i * 3) vy).drew gT (Tt.take p ++ (Z ++ [(vy, yr)]) ++ Tt.drop (p + (i + 1)))) := (by rw [← set_mid Tt Z p i (vy, yr) HZ.out hpi]; exact WAt.rset (k := p + i) HRx.out (by have := HZ.out; simp; omega) (by omega) (vy, yr) rfl : WAt (rset wx gT (p * 3 + i * 3) vy) gT (Tt.take p ++ (Z ++ [(vy, yr)]) ++ Tt.drop (p + (i + 1))))
              clear hs0 hs1 hs2 hf0 hf1 hf2 e0 e1 e2 hcut
              generalize (rset wx gT (p * 3 + i * 3) vy).drew = wz at HGw HRw ⊢
              go_wp2
              go_roundw
              case rel => exact ⟨i + 1, nx, ny - 1, ka, kb - 1, some ⟨qx, ox, none⟩, b3, ((vx, xr) :: X), Y, Z ++ [(vy, yr)], by omega, by go_num, rfl, rfl, HX, HNN, HXY2, HZ2, HRX.out.farB HGw.out HFX.out, HR2.out.farB HGw.out HF2.out, HFX, HF2, HG2, HRw, HGr.out.trans HGw.out⟩
              case measure => simp [intOf]; omega
    · obtain rfl : i = n := by omega
      have hxy := HXY.out
      have hX : X = [] := List.eq_nil_of_length_eq_zero (by omega)
      have hY : Y = [] := List.eq_nil_of_length_eq_zero (by omega)
      subst hX
      subst hY
      have hg := HG.out
      have hZG : Z = G := by simpa [Ms.mg] using hg
      have ti : decide ((i : Int) < (i : Int)) = false := by simp
      have HRow2 : Hid (WAt wr gT (Tt.take p ++ G ++ Tt.drop (p + i))) := (by rw [← hZG]; exact HRow.out : WAt wr gT (Tt.take p ++ G ++ Tt.drop (p + i)))
      clear hxy hg hZG HG HX HY HXY HZ HRow
      go_wp2
      first | go_end0 | refine bodyPost_ret (results_none rfl _ _ _) rfl ?_
      exact ⟨rfl, HRow2.out, HGr.out⟩
end Go.Proofs.Ytghnbohplonhoaa
namespace Go.Proofs.Ytghnbohplonhoaa
open Go.RowKit
set_option linter.unusedVariables false
set_option linter.unusedSimpArgs false
def zpr : PR := (⟨0, 0, none, 0, 0⟩, Rw.zero)
theorem made_rows (m : Nat) : (madeCells (Value.agg #[.int .i64 0, .int .i64 0, .slice none 0 0]).cells (m * 3)).toList = flat pc (List.replicate m zpr) := by
  apply List.ext_getElem?
  intro j
  by_cases hj : j < m * 3
  · have h1 := flat_get (fl := pc) (k := 3) pc_len (List.replicate m zpr) (j / 3) (j % 3) zpr (by rw [List.getElem?_replicate, if_pos (by omega)]) (by omega)
    rw [show j / 3 * 3 + j % 3 = j by omega] at h1
    rw [h1]
    unfold madeCells
    rw [Array.toList_map]
    have h3 : j % 3 = 0 ∨ j % 3 = 1 ∨ j % 3 = 2 := by omega
    have hr : (List.range (m * 3))[j]? = some j := by simp [hj]
    simp only [Value.cells, Array.toList_range, List.getElem?_map, hr, Option.map_some]
    rcases h3 with h | h | h <;> (rw [h]; simp [h, pc, rc, zpr, sv])
  · rw [List.getElem?_eq_none (by simp [madeCells]; omega), List.getElem?_eq_none (by rw [flat_len pc_len]; simp; omega)]
/-- 'make([]Row, m)'. -/
theorem wpList_make_prs {w : World} {ops : Array Oper} {rest : List Oper} {o : Oper} {a : Act} {Q : Exit → Act → World → Prop}
    (hg : o.guard = none) (l c : Operand) (hop : o.op = Op.makeSlice 31 l c) (L C : Int) (m : Nat) (hl : a.eval l = .int .i64 L) (hc : a.eval c = .int .i64 C) (hL : L = (m : Int)) (hC : C = (m : Int)) (b3 : m ≤ 1000000)
    (hK : ∀ (w' : World), WAt w' w.heap.size (List.replicate m zpr) → Below w.heap.size w w' → wpList Try.prog ops Q rest (a.put o.dst (.slice (some ⟨w.heap.size, 0, none⟩) m m)) w') :
    wpList Try.prog ops Q (o :: rest) a w := by
  obtain ⟨i0, hi, hz0, hz1, hz2⟩ := info_parts Try.info28
  refine wpList_plain hg fun K hK' => ?_
  subst hL
  subst hC
  have hrun := run_make (P := Try.prog) w 31 28 i0 _ Try.underlying31 hi hz0 .i64 .i64 (m : Int) (m : Int) (by omega) (by omega) (by rw [hz2]; omega) (by omega)
  simp only [Int.toNat_natCast] at hrun
  unfold Oper.wp
  simp [execOp, hop, hl, hc, hrun, Result.andThen]
  refine hK' _ _ (hK _ ?_ ((Below.refl _ _).alloc (Nat.le_refl _) _))
  unfold WAt
  rw [hz1, heap_alloc_new, ← made_rows]
theorem cutAt31 (g n p e : Nat) (hp : p < n) (he : e ≤ n) (hpe : p ≤ e) (hn : n ≤ 1000) (w : World) : (Instr.sliceAt 31 (.slice (some ⟨g, 0, none⟩) n n) (some (.int .i64 p)) (some (.int .i64 e)) none).run Try.prog w = .ok (.slice (some ⟨g, p * 3, none⟩) (e - p) (n - p)) w := by
  have i0 : (p : Int) ≤ (e : Int) := by omega
  have i1 : (e : Int) ≤ (n : Int) := by omega
  have i3 : n ≤ 9223372036854775807 := by omega
  have hne : ¬ n - p = 0 := by omega
  go_simp
  first | done | omega
/-- Its cells lie in another block. -/
def Aw (g : Nat) (x : PR) : Prop := 0 < x.1.s.2.1 → ∀ q, (sv x.1.s).ownBlock = some q → some g ≠ some q
theorem set_next' {l : List PR} {k n : Nat} {z y : PR} (hk : l.length = k) (hn : k < n) : (l ++ List.replicate (n - k) z).set k y = (l ++ [y]) ++ List.replicate (n - (k + 1)) z := by
  rw [List.set_append_right _ _ (by omega), hk, Nat.sub_self, show n - k = (n - (k + 1)) + 1 by omega, List.replicate_succ, List.set_cons_zero]
  simp
set_option maxRecDepth 100000 in
set_option maxHeartbeats 8000000 in
theorem copies_is (a : Option Addr) (n cap : Nat) (l : List Rw) (w : World) (hn : n = l.length) (hB : RdR w a cap l) (hl : l.length ≤ 1000) (hc : ∀ r ∈ l, r.c.length ≤ 1000) :
    Calls Try.prog 52 #[.slice a n cap] w fun e w' => ∃ F : List PR, e = .returned (.slice (some ⟨w.heap.size, 0, none⟩) n n) ∧ WAt w' w.heap.size F ∧ F.map Prod.snd = l ∧ (∀ x ∈ F, RvOk w' x.1 x.2 ∧ Aw w.heap.size x) ∧ Ex w w' := by
  have HN : Hid (n = l.length) := hn
  have HB : Hid (RdR w a cap l) := hB
  obtain ⟨h1, h2, _⟩ := hB.bounds
  unfold maxLen at h2
  have hncap : n ≤ cap := by omega
  have hn5 : n ≤ 1000 := by omega
  have HCl : Hid (∀ r ∈ l, r.c.length ≤ 1000) := hc
  clear hB hn hl hc h1
  go_enter Try.func52, Try.ntmps52
  go_wp2_with (at_make; refine wpList_make_prs rfl _ _ rfl _ _ n rfl rfl rfl rfl (by omega) ?_; intro w1 hr1 hb1)
  obtain ⟨g, hg⟩ : ∃ g, g = w.heap.size := ⟨_, rfl⟩
  rw [← hg] at hr1 ⊢
  have HG : Hid (g = w.heap.size) := hg
  have h0W : Hid (WAt w1 g (([] : List PR) ++ List.replicate (n - 0) zpr)) := (by simpa using hr1 : WAt w1 g (([] : List PR) ++ List.replicate (n - 0) zpr))
  have h0X : Hid (Ex w w1) := hb1
  clear hr1 hb1 hg
  go_loopw [11, 4, 5] (fun iv jv rv wr => ∃ (i : Nat) (F : List PR), i ≤ n ∧ iv = .int .i64 (i : Int) ∧ Hid (F.length = i) ∧ Hid (F.map Prod.snd = l.take i) ∧ Hid (WAt wr g (F ++ List.replicate (n - i) zpr)) ∧ Hid (∀ x ∈ F, RvOk wr x.1 x.2 ∧ Aw g x) ∧ Hid (Ex w wr)) (fun iv jv rv wr => n - (intOf iv).toNat)
  case atStart => exact ⟨0, [], by omega, rfl, (rfl : ([] : List PR).length = 0), (by simp : ([] : List PR).map Prod.snd = l.take 0), h0W, (by simp : ∀ x ∈ ([] : List PR), RvOk w1 x.1 x.2 ∧ Aw g x), h0X⟩
  case round =>
    obtain ⟨i, F, hi, rfl, HFl, HFm, HW, HFr, HX⟩ := hrel
    clear h0W h0X
    by_cases hlt : i < n
    · have ti : decide ((i : Int) < (n : Int)) = true := by simp; omega
      obtain ⟨us, hu1, hu2⟩ := HB.out
      have hll : i < l.length := by have := HN.out; omega
      have hil : i < us.length := by rw [hu2.1]; exact hll
      obtain ⟨b, off, hpp, ec⟩ := hu1.at hil
      obtain ⟨x, hx⟩ : ∃ x, l[i] = x := ⟨_, rfl⟩
      obtain ⟨vx, hvx⟩ : ∃ v, us[i] = v := ⟨_, rfl⟩
      have hok : RvOk w vx x := by rw [← hx, ← hvx]; exact hu2.2 i _ _ (List.getElem?_eq_getElem hil) (List.getElem?_eq_getElem hll)
      rw [hvx] at ec
      obtain ⟨vt, vq, sp, sn, sc⟩ := vx
      have e0 : wr.cell? ⟨b, off + i * 3, none⟩ = some (.int .i64 vt) := cell_ex (ec 0 _ rfl) HX.out
      have e1 : wr.cell? ⟨b, off + i * 3 + 1, none⟩ = some (.int .i64 vq) := cell_ex (ec 1 _ rfl) HX.out
      have e2 : wr.cell? ⟨b, off + i * 3 + 2, none⟩ = some (.slice sp sn sc) := cell_ex (ec 2 _ rfl) HX.out
      have HTk : Hid (l.take (i + 1) = l.take i ++ [x]) := (by rw [List.take_add_one, List.getElem?_eq_getElem hll, hx]; rfl : l.take (i + 1) = l.take i ++ [x])
      have hcx : x.c.length ≤ 1000 := HCl.out x (by rw [← hx]; exact List.getElem_mem hll)
      have hgl := HW.out.lt
      have hLl : (F ++ List.replicate (n - i) zpr).length = n := by have := HFl.out; simp; omega
      obtain ⟨w2, hw2⟩ : ∃ w2, wr.alloc (.cells #[.int .i64 vt, .int .i64 vq, .slice sp sn sc] 28) = w2 := ⟨_, rfl⟩
      have hx2 : Ex wr w2 := by rw [← hw2]; exact (Below.refl _ _).alloc (Nat.le_refl _) _
      have HL2 : Hid (LAt w2 wr.heap.size ⟨vt, vq, sp, sn, sc⟩) := (by rw [← hw2]; exact LAt.new wr ⟨vt, vq, sp, sn, sc⟩ : LAt w2 wr.heap.size ⟨vt, vq, sp, sn, sc⟩)
      have HW2 : Hid (WAt w2 g (F ++ List.replicate (n - i) zpr)) := HW.out.below hx2
      obtain ⟨w3, hw3⟩ : ∃ w3, ((w2.setCell ⟨g, i * 3, none⟩ (.int .i64 vt)).setCell ⟨g, i * 3 + 1, none⟩ (.int .i64 vq)).setCell ⟨g, i * 3 + 2, none⟩ (.slice sp sn sc) = w3 := ⟨_, rfl⟩
      have hg3 : wr.grownBy w3 (some g) := by rw [← hw3]; exact rset_grown (hx2.grownBy (some g)) (i * 3) ⟨vt, vq, sp, sn, sc⟩
      have hgw : w.heap.size ≤ g := by have := HG.out; omega
      have HX3 : Hid (Ex w w3) := (Below.grown HX.out hg3 HX.out.size (fun k hk => by simp at hk; omega) : Ex w w3)
      have HL3 : Hid (LAt w3 wr.heap.size ⟨vt, vq, sp, sn, sc⟩) := (by rw [← hw3]; exact ((HL2.out.other (by omega)).other (by omega)).other (by omega) : LAt w3 wr.heap.size ⟨vt, vq, sp, sn, sc⟩)
      have HW3 : Hid (WAt w3 g ((F ++ List.replicate (n - i) zpr).set i (⟨vt, vq, sp, sn, sc⟩, x))) := (by rw [← hw3]; exact WAt.rset (k := i) HW2.out (by rw [hLl]; exact hlt) rfl (⟨vt, vq, sp, sn, sc⟩, x) (v := ⟨vt, vq, sp, sn, sc⟩) rfl : WAt w3 g ((F ++ List.replicate (n - i) zpr).set i (⟨vt, vq, sp, sn, sc⟩, x)))
      obtain ⟨o1, o2, o3, o4⟩ := hok
      simp only at o1 o2 o3 o4
      have HRC : Hid (RdC w3 sp sc x.c) := o4.below HX3.out
      have HTQ : Hid (vt = x.t ∧ vq = x.q) := ⟨o1, o2⟩
      have HSN : Hid (sn = x.c.length) := o3
      have HF3 : Hid (∀ y ∈ F, RvOk w3 y.1 y.2 ∧ Aw g y) := (fun y hy => ⟨(HFr.out y hy).1.far hg3 (HFr.out y hy).2, (HFr.out y hy).2⟩ : ∀ y ∈ F, RvOk w3 y.1 y.2 ∧ Aw g y)
      have hs2 := HW2.out.slot (k := i) (o := i * 3) (by rw [hLl]; exact hlt) rfl
      obtain ⟨⟨p0, p1, p2, s0, s1, s2⟩, f0, f1, f2⟩ := hs2
      obtain ⟨n0, n1, n2⟩ := HL2.out.all
      obtain ⟨m0, m1, m2⟩ := HL3.out.all
      have hg3l : g < w3.heap.size := HW3.out.lt
      have hstep : ∀ v9 w9, OwnC w9 w3.heap.size v9 x.c → w3.grownBy w9 none → ∃ a9 c9 o9, v9 = .slice a9 x.c.length c9 ∧ w9.cell? ⟨g, i * 3 + 2, none⟩ = some o9 ∧ w9.frozen? ⟨g, i * 3 + 2, none⟩ = false ∧
          Hid (WAt (w9.setCell ⟨g, i * 3 + 2, none⟩ (.slice a9 x.c.length c9)) g ((F ++ [(⟨vt, vq, a9, x.c.length, c9⟩, x)]) ++ List.replicate (n - (i + 1)) zpr)) ∧ Hid (∀ y ∈ F ++ [(⟨vt, vq, a9, x.c.length, c9⟩, x)], RvOk (w9.setCell ⟨g, i * 3 + 2, none⟩ (.slice a9 x.c.length c9)) y.1 y.2 ∧ Aw g y) ∧ Hid (Ex w (w9.setCell ⟨g, i * 3 + 2, none⟩ (.slice a9 x.c.length c9))) := by
        intro v9 w9 ho9 hg9
        obtain ⟨a9, c9, rfl, hb9⟩ := ho9.rd cc_len
        have hW9 : WAt w9 g ((F ++ List.replicate (n - i) zpr).set i (⟨vt, vq, sp, sn, sc⟩, x)) := by
          unfold WAt; rw [hg9.block g hg3l (by simp)]; exact HW3.out
        have hil2 : ((F ++ List.replicate (n - i) zpr).set i (⟨vt, vq, sp, sn, sc⟩, x))[i]? = some (⟨vt, vq, sp, sn, sc⟩, x) := by
          rw [List.getElem?_set_self (by rw [hLl]; exact hlt)]
        have hWf := hW9.set (i := i) (j := 2) (k := i * 3 + 2) (u := .slice a9 x.c.length c9) (x := (⟨vt, vq, sp, sn, sc⟩, x)) (y := (⟨vt, vq, a9, x.c.length, c9⟩, x)) hil2 (by omega) rfl rfl
        rw [List.set_set, set_next' HFl.out hlt] at hWf
        have hgs : w9.grownBy (w9.setCell ⟨g, i * 3 + 2, none⟩ (.slice a9 x.c.length c9)) (some g) := set_grown (World.grownBy.refl w9 _) _
        have hown : ∀ q, (Value.slice a9 x.c.length c9).ownBlock = some q → some g ≠ some q := fun q hq e => by
          have := ho9.lt q hq
          simp at e
          omega
        refine ⟨a9, c9, _, rfl, hW9.cell hil2 (show 2 < 3 by omega), hW9.frozen _, hWf, fun y hy => ?_, ?_⟩
        · rcases List.mem_append.1 hy with h | h
          · have hf := HF3.out y h
            exact ⟨(hf.1.far hg9 (fun _ _ _ => by simp)).far hgs hf.2, hf.2⟩
          · rw [List.mem_singleton] at h
            subst h
            refine ⟨⟨HTQ.out.1, HTQ.out.2, rfl, ?_⟩, fun _ q hq => hown q hq⟩
            refine RdW.far hb9 hgs fun _ b' off' e => ?_
            simp only at e
            exact hown b' (by rw [e]; rfl)
        · have h9 : Ex w w9 := Below.grown HX3.out hg9 HX3.out.size (fun k hk => by simp at hk)
          exact Below.setCell h9 (p := ⟨g, i * 3 + 2, none⟩) hgw _
      have HFl2 : ∀ z : PR, Hid ((F ++ [z]).length = i + 1) := fun z => (by have := HFl.out; simp; exact this : (F ++ [z]).length = i + 1)
      have HFm2 : ∀ z : RV, Hid ((F ++ [(z, x)]).map Prod.snd = l.take (i + 1)) := fun z => (by rw [List.map_append, HFm.out, HTk.out]; rfl : (F ++ [(z, x)]).map Prod.snd = l.take (i + 1))
      have HOn : Hid (OwnC w3 w3.heap.size (.slice none 0 0) []) := ownW_none _ _
      subst hpp
      clear hx hvx ec hu1 hu2 hx2 hg3 o1 o2 o3 o4 hLl hil
      go_wp2_with (at_builtin; refine wpList_append_wide cc_len cc_one rfl (.const (.slice none 0 0)) (.tmp 23) 23 _ 48 rfl Try.underlying23 Try.info25 (by omega) rfl w3.heap.size _ [] rfl HOn.out sp sn sc x.c rfl HSN.out HRC.out (by simp [maxLen]; omega) (by simp; omega) (Nat.le_refl _) ?_; intro v9 w9 ho9 hg9 _; obtain ⟨a9, c9, o9, rfl, j0, j1, HW9, HF9, HX9⟩ := hstep v9 w9 ho9 hg9; clear ho9 hg9)
      go_roundw
      case rel => exact ⟨i + 1, F ++ [((⟨vt, vq, a9, x.c.length, c9⟩ : RV), x)], by omega, by go_num, HFl2 _, HFm2 _, HW9, HF9, HX9⟩
      case measure => simp [intOf]; omega
    · have ti : decide ((i : Int) < (n : Int)) = false := by simp; omega
      have HW' : Hid (WAt wr g F) := (by have h := HW.out; rw [show n - i = 0 by omega] at h; simpa using h : WAt wr g F)
      have HFm' : Hid (F.map Prod.snd = l) := (by rw [HFm.out, List.take_of_length_le (by have := HN.out; omega)] : F.map Prod.snd = l)
      go_wp2_with fail
      go_ret
      exact ⟨F, by rw [HG.out]; rfl, by rw [← HG.out]; exact HW'.out, HFm'.out, by rw [← HG.out]; exact HFr.out, HX.out⟩

set_option maxRecDepth 100000 in
set_option maxHeartbeats 8000000 in
theorem ssort_is (a : Option Addr) (n cap : Nat) (l : List Rw) (w : World) (hn : n = l.length) (hB : RdR w a cap l) (hl : l.length ≤ 1000) (hc : ∀ r ∈ l, r.c.length ≤ 1000) :
    Calls Try.prog 28 #[.slice a n cap] w fun e w' => ∃ a' c', e = .returned (.slice a' (Rw.sort l).length c') ∧ RdR w' a' c' (Rw.sort l) ∧ Ex w w' := by
  have HN : Hid (n = l.length) := hn
  have HB : Hid (RdR w a cap l) := hB
  obtain ⟨h1, h2, _⟩ := hB.bounds
  unfold maxLen at h2
  have hncap : n ≤ cap := by omega
  have hn5 : n ≤ 1000 := by omega
  have HCl : Hid (∀ r ∈ l, r.c.length ≤ 1000) := hc
  have HLl : Hid (l.length ≤ 1000) := hl
  clear hB hn hl hc h1
  go_enter Try.func28, Try.ntmps28
  go_wp2_with fail
  go_at_call 52
  refine (copies_is a n cap l _ HN.out HB.out HLl.out HCl.out).mono ?_
  rintro e w1 ⟨F0, rfl, hW1, hF0, hA1, hx1⟩
  obtain ⟨gF, hgF⟩ : ∃ gF, gF = w.heap.size := ⟨_, rfl⟩
  rw [← hgF] at hW1 hA1 ⊢
  have HW1 : Hid (WAt w1 gF F0) := hW1
  have HF0 : Hid (F0.map Prod.snd = l) := hF0
  have HA1 : Hid (∀ x ∈ F0, RvOk w1 x.1 x.2 ∧ Aw gF x) := hA1
  have HX1 : Hid (Ex w w1) := hx1
  have HGF : Hid (w.heap.size ≤ gF) := (by omega : w.heap.size ≤ gF)
  have HF0l : Hid (F0.length = n) := (by have h := HN.out; have h2 := congrArg List.length hF0; simp at h2; omega : F0.length = n)
  clear hW1 hF0 hA1 hx1 hgF
  go_wp2_with (at_make; refine wpList_make_prs rfl _ _ rfl _ _ n rfl rfl rfl rfl (by omega) ?_; intro w2 hr2 hb2)
  obtain ⟨gT, hgT⟩ : ∃ gT, gT = w1.heap.size := ⟨_, rfl⟩
  rw [← hgT] at hr2 ⊢
  have hFT : gF ≠ gT := by have := HW1.out.lt; omega
  have h0F : Hid (WAt w2 gF F0) := HW1.out.below hb2
  have h0T : Hid (WAt w2 gT (List.replicate n zpr)) := hr2
  have h0L : Hid ((List.replicate n zpr).length = n) := (by simp : (List.replicate n zpr).length = n)
  have h0X : Hid (Ex w w2) := HX1.out.trans hb2
  have h0A : Hid (∀ x ∈ F0, RvOk w2 x.1 x.2 ∧ Aw gF x ∧ Aw gT x) := (fun x hx => by
    have h := HA1.out x hx
    refine ⟨h.1.below hb2, h.2, fun h0 q hq e => ?_⟩
    obtain ⟨q', off, e1, e2⟩ := h.1.block h0
    simp [sv, e1, Value.ownBlock] at hq
    simp at e
    omega : ∀ x ∈ F0, RvOk w2 x.1 x.2 ∧ Aw gF x ∧ Aw gT x)
  have h0m : Hid (∀ x, x ∈ F0 ↔ x ∈ F0) := fun x => Iff.rfl
  have h0k : Hid (∀ t q, F0.filter (fun x => Rw.key t q (Ms.kr x)) = F0.filter (fun x => Rw.key t q (Ms.kr x))) := fun t q => rfl
  have h0b2 : w.heap.size ≤ gT := by have := HX1.out.size; omega
  have h0b1 : w.heap.size ≤ gF := HGF.out
  clear hr2 hb2 hgT HW1 HA1
  go_loopw [3, 4, 5, 6, 7, 8] (fun vf vt vs v6 v7 v8 wr => ∃ (gF gT sz : Nat) (F Tt : List PR), 1 ≤ sz ∧ sz ≤ 2000 ∧ gF ≠ gT ∧ w.heap.size ≤ gF ∧ w.heap.size ≤ gT ∧ vf = .slice (some ⟨gF, 0, none⟩) n n ∧ vt = .slice (some ⟨gT, 0, none⟩) n n ∧ vs = .int .i64 (sz : Int) ∧ Hid (WAt wr gF F) ∧ Hid (WAt wr gT Tt) ∧ Hid (F.length = n) ∧ Hid (Tt.length = n) ∧ Hid (Ms.Ch sz F) ∧ Hid (∀ x, x ∈ F ↔ x ∈ F0) ∧ Hid (∀ t q, F.filter (fun x => Rw.key t q (Ms.kr x)) = F0.filter (fun x => Rw.key t q (Ms.kr x))) ∧ Hid (∀ x ∈ F0, RvOk wr x.1 x.2 ∧ Aw gF x ∧ Aw gT x) ∧ Hid (Ex w wr)) (fun _ _ vs _ _ _ _ => n - (intOf vs).toNat)
  case atStart => exact ⟨gF, gT, 1, F0, List.replicate n zpr, by omega, by omega, hFT, h0b1, h0b2, rfl, rfl, rfl, h0F, h0T, HF0l, h0L, Ms.ch_one F0, h0m, h0k, h0A, h0X⟩
  case round =>
    clear h0F h0T h0L h0X h0m h0b1 h0b2 hFT h0k h0A HGF HX1 HF0l
    obtain ⟨gF, gT, sz, F, Tt, hs1, hs2, hFT, hbF, hbT, rfl, rfl, rfl, HF, HT, HFl, HTl, HCh, HM, HK, HA, HX⟩ := hrel
    by_cases hlt : sz < n
    · have ts : decide ((sz : Int) < (n : Int)) = true := by simp; omega
      obtain ⟨G, hG⟩ : ∃ G, Ms.pass n sz F = G := ⟨_, rfl⟩
      have hGl : G.length = n := by rw [← hG, Ms.pass_len sz (by omega) n F (by rw [HFl.out]; omega)]; exact HFl.out
      have hGc : Ms.Ch (2 * sz) G := by rw [← hG]; exact Ms.pass_ch sz (by omega) n F (by rw [HFl.out]; omega) HCh.out
      have hGm : ∀ x, x ∈ G ↔ x ∈ F0 := fun x => by rw [← hG, Ms.pass_mem x sz (by omega) n F (by rw [HFl.out]; omega)]; exact HM.out x
      have hGk : ∀ t q, G.filter (fun x => Rw.key t q (Ms.kr x)) = F0.filter (fun x => Rw.key t q (Ms.kr x)) := fun t q => by rw [← hG, Ms.pass_key (fun x => Rw.key t q (Ms.kr x)) (fun x y => Ms.key_alike t q x y) sz (by omega) n F (by rw [HFl.out]; omega) HCh.out]; exact HK.out t q
      have HGl : Hid (G.length = n) := hGl
      have HGc : Hid (Ms.Ch (sz * 2) G) := (by rw [Nat.mul_comm]; exact hGc : Ms.Ch (sz * 2) G)
      have HGm : Hid (∀ x, x ∈ G ↔ x ∈ F0) := hGm
      have HGk : Hid (∀ t q, G.filter (fun x => Rw.key t q (Ms.kr x)) = F0.filter (fun x => Rw.key t q (Ms.kr x))) := hGk
      have h0P : Hid (Tt.take 0 ++ Ms.pass n sz (F.drop 0) = G) := (by simpa using hG : Tt.take 0 ++ Ms.pass n sz (F.drop 0) = G)
      clear hG hGl hGc hGm hGk
      go_wp2_with fail
      go_loopw [6, 7, 8] (fun va vb vc wr => ∃ (p k : Nat) (Tt : List PR), p ≤ n + 4000 ∧ va = .int .i64 (p : Int) ∧ n ≤ p + k ∧ Hid (WAt wr gF F) ∧ Hid (WAt wr gT Tt) ∧ Hid (Tt.length = n) ∧ Hid (Tt.take p ++ Ms.pass k sz (F.drop p) = G) ∧ Hid (∀ x ∈ F0, RvOk wr x.1 x.2 ∧ Aw gF x ∧ Aw gT x) ∧ Hid (Ex w wr)) (fun va _ _ _ => n - (intOf va).toNat)
      case atStart => exact ⟨0, n, Tt, by omega, rfl, by omega, HF, HT, HTl, h0P, HA, HX⟩
      case round =>
        clear h0P HF HT HTl HX HCh HM HK HA
        obtain ⟨p, k, Tt, hp, rfl, hk, HF, HT, HTl, HP, HA, HX⟩ := hrel
        by_cases hpn : p < n
        · have tp : decide ((p : Int) < (n : Int)) = true := by simp; omega
          obtain ⟨m, hm⟩ : ∃ m, m = min (p + sz) n := ⟨_, rfl⟩
          obtain ⟨e, he⟩ : ∃ e, e = min (m + sz) n := ⟨_, rfl⟩
          obtain ⟨k, rfl⟩ : ∃ k', k = k' + 1 := ⟨k - 1, by omega⟩
          obtain ⟨A, hA⟩ : ∃ A, A = (F.drop p).take (m - p) := ⟨_, rfl⟩
          obtain ⟨C, hC⟩ : ∃ C, C = (F.drop m).take (e - m) := ⟨_, rfl⟩
          obtain ⟨G0, hG0⟩ : ∃ G0, Ms.mg (A.length + C.length) A C = G0 := ⟨_, rfl⟩
          have hst := Ms.pass_step (k := k) (s := sz) (by omega) HFl.out HTl.out hpn hm he hA hC hG0
          rw [HP.out] at hst
          obtain ⟨hAl, hCl, hTl2, hP2⟩ := hst
          have hpm : p ≤ m := by omega
          have hmn : m ≤ n := by omega
          have hme : m ≤ e := by omega
          have hen : e ≤ n := by omega
          have hi1 : (if (n : Int) < (p : Int) + (sz : Int) then (n : Int) else (p : Int) + (sz : Int)) = (m : Int) := by split <;> omega
          have hi2 : (if (n : Int) < (m : Int) + (sz : Int) then (n : Int) else (m : Int) + (sz : Int)) = (e : Int) := by split <;> omega
          have hmin1 : ∀ (ts : Array TypeId) (t : TypeId) (W : World), (Builtin.min_ ts t #[.int .i64 ((p : Int) + (sz : Int)), .int .i64 (n : Int)]).run Try.prog W = .ok (.int .i64 (m : Int)) W := fun ts t W => by rw [run_min_int2, hi1]
          have hmin2 : ∀ (ts : Array TypeId) (t : TypeId) (W : World), (Builtin.min_ ts t #[.int .i64 ((m : Int) + (sz : Int)), .int .i64 (n : Int)]).run Try.prog W = .ok (.int .i64 (e : Int)) W := fun ts t W => by rw [run_min_int2, hi2]
          have hc1 := cutAt31 gT n p e hpn hen (by omega) hn5
          obtain ⟨a1, hc2, hd2, hw2⟩ := cut31p (some ⟨gF, 0, none⟩) n n p m (by omega) hmn (Nat.le_refl _) (by omega)
          obtain ⟨b1, hc3, hd3, hw3⟩ := cut31p (some ⟨gF, 0, none⟩) n n m e hme hen (Nat.le_refl _) (by omega)
          have hRF := HF.out.rd HFl.out.symm (by omega)
          have hR1 := hd2 wr F HFl.out hRF
          have hR2 := hd3 wr F HFl.out hRF
          rw [← hA] at hR1
          rw [← hC] at hR2
          have HR1 : Hid (RdW 3 pc wr a1 (n - p) A) := hR1
          have HR2 : Hid (RdW 3 pc wr b1 (n - m) C) := hR2
          have HW2 : Hid (a1.map (·.block) ≠ some gT) := (by rw [show a1.map (·.block) = _ from hw2]; simpa using hFT : a1.map (·.block) ≠ some gT)
          have HW3 : Hid (b1.map (·.block) ≠ some gT) := (by rw [show b1.map (·.block) = _ from hw3]; simpa using hFT : b1.map (·.block) ≠ some gT)
          have HC1 : Hid (∀ w, (Instr.sliceAt 31 (.slice (some ⟨gT, 0, none⟩) n n) (some (.int .i64 p)) (some (.int .i64 e)) none).run Try.prog w = .ok (.slice (some ⟨gT, p * 3, none⟩) (e - p) (n - p)) w) := hc1
          have HC2 : Hid (∀ w, (Instr.sliceAt 31 (.slice (some ⟨gF, 0, none⟩) n n) (some (.int .i64 p)) (some (.int .i64 m)) none).run Try.prog w = .ok (.slice a1 (m - p) (n - p)) w) := hc2
          have HC3 : Hid (∀ w, (Instr.sliceAt 31 (.slice (some ⟨gF, 0, none⟩) n n) (some (.int .i64 m)) (some (.int .i64 e)) none).run Try.prog w = .ok (.slice b1 (e - m) (n - m)) w) := hc3
          have HAl : Hid (m - p = A.length) := hAl.symm
          have HCl' : Hid (e - m = C.length) := hCl.symm
          have HEl : Hid (e - p = A.length + C.length) := (by omega : e - p = A.length + C.length)
          have HG0 : Hid (Ms.mg (A.length + C.length) A C = G0) := hG0
          have HTl2 : Hid ((Tt.take p ++ G0 ++ Tt.drop (p + (e - p))).length = n) := (by rw [HEl.out]; exact hTl2 : (Tt.take p ++ G0 ++ Tt.drop (p + (e - p))).length = n)
          have HP2 : Hid ((Tt.take p ++ G0 ++ Tt.drop (p + (e - p))).take (p + 2 * sz) ++ Ms.pass k sz (F.drop (p + 2 * sz)) = G) := (by rw [HEl.out]; exact hP2 : (Tt.take p ++ G0 ++ Tt.drop (p + (e - p))).take (p + 2 * sz) ++ Ms.pass k sz (F.drop (p + 2 * sz)) = G)
          clear hAl hCl hTl2 hP2 hG0 hA hC hR1 hR2 hRF hd2 hd3 hw2 hw3 hc1 hc2 hc3 hm he HP
          clear hi1 hi2
          go_wp2_with fail
          have hre : ∀ w : World, (fun w w' : World => w' = w) w w := fun _ => rfl
          refine Rg.wp_rows_tail (List.take 12 _) (List.drop 12 _) (List.take_append_drop 12 _).symm [.inl (Value.slice (some ⟨gT, 0, none⟩) n n), .inl (Value.int .i64 p), .inl (Value.int .i64 e), .inl (Value.slice (some ⟨gT, p * 3, none⟩) (e - p) (n - p)), .inl (Value.slice (some ⟨gF, 0, none⟩) n n), .inl (Value.int .i64 p), .inl (Value.int .i64 m), .inl (Value.slice a1 (m - p) (n - p)), .inl (Value.slice (some ⟨gF, 0, none⟩) n n), .inl (Value.int .i64 m), .inl (Value.int .i64 e), .inl (Value.slice b1 (e - m) (n - m))] (fun wx => wx = wr.drew) (fun w w' => w' = w) 56 (by kernel_rfl) rfl (by kernel_rfl) (by kernel_rfl) (by kernel_rfl) (by decide) (by kernel_rfl) ?st hre rfl ?goods ?fin
          case st => exact trivial
          case goods =>
            refine Rg.goods_cons (Rg.good_move hre rfl rfl rfl) ?_
            refine Rg.goods_cons (Rg.good_move hre rfl rfl rfl) ?_
            refine Rg.goods_cons (Rg.good_move hre rfl rfl rfl) ?_
            refine Rg.goods_cons (Rg.good_cut3 hre rfl rfl rfl rfl rfl HC1.out) ?_
            refine Rg.goods_cons (Rg.good_move hre rfl rfl rfl) ?_
            refine Rg.goods_cons (Rg.good_move hre rfl rfl rfl) ?_
            refine Rg.goods_cons (Rg.good_move hre rfl rfl rfl) ?_
            refine Rg.goods_cons (Rg.good_cut3 hre rfl rfl rfl rfl rfl HC2.out) ?_
            refine Rg.goods_cons (Rg.good_move hre rfl rfl rfl) ?_
            refine Rg.goods_cons (Rg.good_move hre rfl rfl rfl) ?_
            refine Rg.goods_cons (Rg.good_move hre rfl rfl rfl) ?_
            refine Rg.goods_cons (Rg.good_cut3 hre rfl rfl rfl rfl rfl HC3.out) ?_
            exact Rg.goods_nil
          case fin =>
            intro wx hx
            have hx0 : wr.grownBy wx (some gT) := by rw [hx]; exact drew_grown (World.grownBy.refl wr _)
            have HT0 : Hid (WAt wx gT Tt) := (by rw [hx]; exact HT.out : WAt wx gT Tt)
            have HX0 : Hid (wr.grownBy wx (some gT)) := hx0
            have HA0 : Hid (RdW 3 pc wx a1 (n - p) A) := HR1.out.farB hx0 HW2.out
            have HB0 : Hid (RdW 3 pc wx b1 (n - m) C) := HR2.out.farB hx0 HW3.out
            clear hx hx0 hre
            simp only [Rg.later, List.take_succ_cons, List.take_zero, List.drop_succ_cons, List.drop_zero, Act.put, List.setIfInBounds_toArray, List.set_cons_succ, List.set_cons_zero]
            go_wp2_with fail
            refine (join_is gT p (e - p) (n - p) Tt a1 (m - p) (n - p) A b1 (e - m) (n - m) C wx HT0.out HEl.out (by rw [HTl.out]; omega) (by rw [HTl.out]; omega) HAl.out HCl'.out HA0.out HB0.out HW2.out HW3.out (by omega) (by unfold maxLen; omega) G0 HG0.out).mono ?_
            rintro e9 w9 ⟨rfl, hr9, hg9⟩
            have hgw : wr.grownBy w9 (some gT) := HX0.out.trans hg9
            have HR9 : Hid (WAt w9 gT (Tt.take p ++ G0 ++ Tt.drop (p + (e - p)))) := hr9
            have HF9 : Hid (WAt w9 gF F) := HF.out.farB hgw hFT
            have HA9 : Hid (∀ x ∈ F0, RvOk w9 x.1 x.2 ∧ Aw gF x ∧ Aw gT x) := (fun x hx => ⟨(HA.out x hx).1.far hgw (HA.out x hx).2.2, (HA.out x hx).2⟩ : ∀ x ∈ F0, RvOk w9 x.1 x.2 ∧ Aw gF x ∧ Aw gT x)
            have HX9 : Hid (Ex w w9) := Below.grown HX.out hgw HX.out.size (fun k hk => by simp at hk; omega)
            clear hgw hr9 hg9
            go_wp2
            go_roundw
            case rel => exact ⟨p + 2 * sz, k, _, by omega, by go_num, by omega, HF9, HR9, HTl2, HP2, HA9, HX9⟩
            case measure => simp [intOf]; omega
        · have tp : decide ((p : Int) < (n : Int)) = false := by simp; omega
          have hTG : Tt = G := by
            have h := HP.out
            rw [List.drop_eq_nil_of_le (by rw [HFl.out]; omega), Ms.pass_nil, List.append_nil, List.take_of_length_le (by rw [HTl.out]; omega)] at h
            exact h
          have HT2 : Hid (WAt wr gT G) := (by rw [← hTG]; exact HT.out : WAt wr gT G)
          have HA2 : Hid (∀ x ∈ F0, RvOk wr x.1 x.2 ∧ Aw gT x ∧ Aw gF x) := (fun x hx => ⟨(HA.out x hx).1, (HA.out x hx).2.2, (HA.out x hx).2.1⟩ : ∀ x ∈ F0, RvOk wr x.1 x.2 ∧ Aw gT x ∧ Aw gF x)
          clear HP hTG HT HA
          go_wp2
          go_roundw
          case rel => exact ⟨gT, gF, sz * 2, G, F, by omega, by omega, Ne.symm hFT, hbT, hbF, rfl, rfl, by go_num, HT2, HF, HGl, HFl, HGc, HGm, HGk, HA2, HX⟩
          case measure => simp [intOf]; omega
    · have ts : decide ((sz : Int) < (n : Int)) = false := by simp; omega
      have hfl := HFl.out
      have hmm : ∀ x ∈ F0, x.1.t = x.2.t ∧ x.1.q = x.2.q := fun x hx => ⟨(HA.out x hx).1.1, (HA.out x hx).1.2.1⟩
      have hsrt := Ms.sorted (F := F) (F0 := F0) (Ms.ch_all HCh.out (by omega)) HK.out (fun x hx => hmm x ((HM.out x).1 hx)) hmm
      rw [HF0.out] at hsrt
      have HRd : Hid (RdR wr (some ⟨gF, 0, none⟩) n (Rw.sort l)) := (by
        refine ⟨F.map Prod.fst, ?_, ?_⟩
        · have h := HF.out.rd HFl.out.symm (by omega)
          obtain ⟨q1, q2, q3, q4⟩ := h
          refine ⟨by simpa using q1, q2, q3, fun i v hi => ?_⟩
          rw [List.getElem?_map] at hi
          obtain ⟨y, hy, rfl⟩ := Option.map_eq_some_iff.1 hi
          exact q4 i y hy
        · rw [← hsrt]
          refine ⟨by simp, fun i v r hv hr => ?_⟩
          rw [List.getElem?_map] at hv hr
          obtain ⟨y, hy, rfl⟩ := Option.map_eq_some_iff.1 hv
          rw [hy] at hr
          simp at hr
          subst hr
          exact (HA.out y ((HM.out y).1 (List.mem_of_getElem? hy))).1 : RdR wr (some ⟨gF, 0, none⟩) n (Rw.sort l))
      have HSl : Hid (n = (Rw.sort l).length) := (by rw [Rw.sort_len]; exact HN.out : n = (Rw.sort l).length)
      clear hfl HF HT HTl HCh hsrt hmm
      go_wp2
      go_ret
      exact ⟨some ⟨gF, 0, none⟩, n, by rw [← HSl.out]; rfl, HRd.out, HX.out⟩
end Go.Proofs.Ytghnbohplonhoaa
