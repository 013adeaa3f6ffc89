/-
  Plain facts on predicates: the columns that they name, how they are written and read. No program here.
-/
import Derived.Test.YtibnhjfeepdddaaM07
namespace Go.Proofs.Ytibnhjfeepdddaa
set_option linter.unusedVariables false
set_option linter.unusedSimpArgs false
namespace Pd
theorem own_in {h : Hd} (e : h.col ≠ []) : h.col ∈ own h := by unfold own; rw [if_neg e]; simp
theorem name_ne {s : List UInt8} (h : Rw.name s = true) : s ≠ [] := by
  rw [Rw.name_iff] at h
  intro e
  rw [e] at h
  simp at h
theorem part_col {h : Hd} {n : Nat} (e : part h n = true) (h1 : 4 ≤ h.k) (h2 : h.k ≤ 9) : h.col ≠ [] := by
  refine name_ne ?_
  unfold part at e
  rw [if_neg (by omega), if_neg (by omega)] at e
  split at e
  · simp only [Bool.and_eq_true] at e; exact e.1
  split at e
  · simp only [Bool.and_eq_true] at e; exact e.1
  split at e
  · simp only [Bool.and_eq_true] at e; exact e.1.1.1
  split at e
  · simp only [Bool.and_eq_true] at e; exact e.1
  split at e
  · omega
  · cases e
/-- A predicate's truth hangs on the columns alone that it names, and the time. -/
theorem ev_cols {r u : Rw} (ht : r.t = u.t) : ∀ p, form p = true → (∀ c ∈ cols p, Rw.cell r.c c = Rw.cell u.c c) → ev r p = ev u p := by
  refine tree ?_
  intro h l ih hf hc
  rw [form_mk, Bool.and_eq_true, List.all_eq_true] at hf
  obtain ⟨hp, hl⟩ := hf
  have hkids : ∀ x ∈ l, ev r x = ev u x := by
    intro x hx
    refine ih x hx (hl x hx) fun c hcx => hc c ?_
    rw [cols_mk, T.mem_bld]
    exact List.mem_append_right _ (List.mem_flatten.2 ⟨cols x, List.mem_map.2 ⟨x, hx, rfl⟩, hcx⟩)
  have hm : l.map (ev r) = l.map (ev u) := List.map_congr_left hkids
  rw [ev_mk, ev_mk, hm]
  have ha : l.all (ev r) = l.all (ev u) := by
    have : ∀ f : Pr → Bool, l.all f = (l.map f).all id := fun f => by simp [List.all_map]
    rw [this, this, hm]
  have hy : l.any (ev r) = l.any (ev u) := by
    have : ∀ f : Pr → Bool, l.any f = (l.map f).any id := fun f => by simp [List.any_map]
    rw [this, this, hm]
  rw [ha, hy]
  have hk := part_kind hp
  by_cases h3 : h.k ≤ 3
  · by_cases h1 : h.k = 1
    · rw [if_pos h1, if_pos h1]
    by_cases h2 : h.k = 2
    · rw [if_neg h1, if_neg h1, if_pos h2, if_pos h2]
    · rw [if_neg h1, if_neg h1, if_neg h2, if_neg h2, if_pos (by omega), if_pos (by omega)]
  rw [if_neg (by omega), if_neg (by omega), if_neg (by omega), if_neg (by omega), if_neg (by omega), if_neg (by omega)]
  unfold leaf
  by_cases h9 : h.k ≤ 9
  · have hcol : Rw.cell r.c h.col = Rw.cell u.c h.col := hc h.col (by
      rw [cols_mk, T.mem_bld]
      exact List.mem_append_left _ (own_in (part_col hp (by omega) h9)))
    rw [hcol, ht]
  · rw [if_neg (by omega), if_neg (by omega), if_neg (by omega), if_neg (by omega), if_neg (by omega), if_neg (by omega), if_pos (by omega)]
    rw [if_neg (by omega), if_neg (by omega), if_neg (by omega), if_neg (by omega), if_neg (by omega), if_neg (by omega), if_pos (by omega), ht]
theorem cell_among (cs : List (List UInt8)) (l : List Ce) {c : List UInt8} (h : c ∈ cs) : Rw.cell (l.filter fun x => decide (x.col ∈ cs)) c = Rw.cell l c := by
  induction l with
  | nil => rfl
  | cons x t ih =>
    by_cases hx : x.col ∈ cs
    · rw [List.filter_cons_of_pos (by simpa using hx), Rw.cell, Rw.cell, ih]
    · rw [List.filter_cons_of_neg (by simpa using hx), ih, Rw.cell, if_neg (show ¬ x.col = c from fun e => hx (by rw [e]; exact h))]
/-- Bytes that lie in others, from a place on. -/
def Lies (b : List UInt8) (k : Nat) (E : List UInt8) : Prop := ∃ P Z, b = P ++ E ++ Z ∧ P.length = k
theorem Lies.app {b E F : List UInt8} {k : Nat} (h : Lies b k (E ++ F)) : Lies b k E ∧ Lies b (k + E.length) F := by
  obtain ⟨P, Z, rfl, rfl⟩ := h
  exact ⟨⟨P, F ++ Z, by simp, rfl⟩, ⟨P ++ E, Z, by simp, by simp⟩⟩
theorem Lies.get {b : List UInt8} {k n : Nat} (h : Lies b k (M.digs n)) (hn : n < 18446744073709551616) : M.get b (k : Int) = (n, k + (M.digs n).length, 0) := by
  obtain ⟨P, Z, rfl, rfl⟩ := h
  exact M.get_digs hn P Z
theorem Lies.text {b s : List UInt8} {k : Nat} {m : Int} (h : Lies b k (T.ptext s)) (hm : (s.length : Int) ≤ m) (hs : s.length < 18446744073709551616) : M.getText b (k : Int) m = (s, k + (T.ptext s).length, 0) := by
  obtain ⟨P, Z, rfl, rfl⟩ := h
  rw [Rw.text_at P s Z m hm hs, List.length_append]
/-- As bytes. -/
def encH (h : Hd) (n : Nat) : List UInt8 :=
  M.digs h.k.toNat ++ (if h.k = 1 ∨ h.k = 2 then M.digs n else if h.k = 3 then [] else if h.k = 10 then M.digs (M.zig h.n).toNat ++ M.digs (M.zig h.m).toNat
    else T.ptext h.col ++ (if h.k = 4 ∨ h.k = 5 then M.digs (M.zig h.n).toNat else if h.k = 6 ∨ h.k = 8 then T.ptext h.s else if h.k = 7 then M.digs h.set.length ++ T.texts h.set else []))
def enc : Pr → List UInt8 := rec' fun h l a => encH h l.length ++ a.flatten
def encE (p : Pr) : List UInt8 × Nat := if right p = true then (enc p, 0) else ([], 12)
theorem enc_mk (h : Hd) (l : List Pr) : enc (Pr.mk' h l) = encH h l.length ++ (l.map enc).flatten := rec_mk _ h l
/-- Numbers that an int64 bears. -/
def num : Pr → Prop := rec' fun h _ a => (In64 h.n ∧ In64 h.m) ∧ ∀ x ∈ a, x
theorem num_mk (h : Hd) (l : List Pr) : num (Pr.mk' h l) ↔ (In64 h.n ∧ In64 h.m) ∧ ∀ x ∈ l, num x := by
  rw [num, rec_mk]
  simp only [List.mem_map, forall_exists_index, and_imp, forall_apply_eq_imp_iff₂]
/-- Of bytes: texts, a head, a predicate. What is answered: what was read, where it ends, (how many parts there were,) why it is refused. -/
def rdT (b : List UInt8) : Nat → Nat → List (List UInt8) → List (List UInt8) × Nat × Nat
  | 0, k, o => (o, k, 0)
  | n + 1, k, o => if (M.getText b k 40).2.2 ≠ 0 then ([], 0, (M.getText b k 40).2.2) else rdT b n (M.getText b k 40).2.1 (o ++ [(M.getText b k 40).1])
def rdC2 (b : List UInt8) (K : Nat) (c : List UInt8) (k : Nat) : Hd × Nat × Nat × Nat :=
  if K = 4 ∨ K = 5 then (if (M.get b k).2.2 ≠ 0 then (hk 0, 0, 0, (M.get b k).2.2) else (⟨K, c, M.zag ((M.get b k).1 : Int), 0, [], []⟩, 0, (M.get b k).2.1, 0))
  else if K = 6 ∨ K = 8 then (if (M.getText b k 40).2.2 ≠ 0 then (hk 0, 0, 0, (M.getText b k 40).2.2) else (⟨K, c, 0, 0, (M.getText b k 40).1, []⟩, 0, (M.getText b k 40).2.1, 0))
  else if K = 7 then (if (M.get b k).2.2 ≠ 0 then (hk 0, 0, 0, (M.get b k).2.2) else if 8 < (M.get b k).1 then (hk 0, 0, 0, 4) else
    if (rdT b (M.get b k).1 (M.get b k).2.1 []).2.2 ≠ 0 then (hk 0, 0, 0, (rdT b (M.get b k).1 (M.get b k).2.1 []).2.2) else (⟨K, c, 0, 0, [], (rdT b (M.get b k).1 (M.get b k).2.1 []).1⟩, 0, (rdT b (M.get b k).1 (M.get b k).2.1 []).2.1, 0))
  else (⟨K, c, 0, 0, [], []⟩, 0, k, 0)
def rdH (b : List UInt8) (K k : Nat) : Hd × Nat × Nat × Nat :=
  if K = 1 ∨ K = 2 then (if (M.get b k).2.2 ≠ 0 then (hk 0, 0, 0, (M.get b k).2.2) else if 40 < (M.get b k).1 then (hk 0, 0, 0, 4) else (hk K, (M.get b k).1, (M.get b k).2.1, 0))
  else if K = 3 then (hk 3, 1, k, 0)
  else if K = 10 then (if (M.get b k).2.2 ≠ 0 then (hk 0, 0, 0, (M.get b k).2.2) else if (M.get b (M.get b k).2.1).2.2 ≠ 0 then (hk 0, 0, 0, (M.get b (M.get b k).2.1).2.2) else
    (⟨10, [], M.zag ((M.get b k).1 : Int), M.zag ((M.get b (M.get b k).2.1).1 : Int), [], []⟩, 0, (M.get b (M.get b k).2.1).2.1, 0))
  else (if (M.getText b k 12).2.2 ≠ 0 then (hk 0, 0, 0, (M.getText b k 12).2.2) else rdC2 b K (M.getText b k 12).1 (M.getText b k 12).2.1)
def rdK (R : Nat → Nat → Pr × Nat × Nat × Nat) : Nat → Nat → Nat → List Pr → List Pr × Nat × Nat × Nat
  | 0, k, c, o => (o, k, c, 0)
  | n + 1, k, c, o => if (R k c).2.2.2 ≠ 0 then ([], 0, 0, (R k c).2.2.2) else rdK R n (R k c).2.1 (R k c).2.2.1 (o ++ [(R k c).1])
def rd4 (R : Nat → Nat → Pr × Nat × Nat × Nat) (c : Nat) (x : Hd × Nat × Nat × Nat) : Pr × Nat × Nat × Nat :=
  if x.2.2.2 ≠ 0 then (zero, 0, 0, x.2.2.2) else
  if (rdK R x.2.1 x.2.2.1 c []).2.2.2 ≠ 0 then (zero, 0, 0, (rdK R x.2.1 x.2.2.1 c []).2.2.2) else
  (Pr.mk' x.1 (rdK R x.2.1 x.2.2.1 c []).1, (rdK R x.2.1 x.2.2.1 c []).2.1, (rdK R x.2.1 x.2.2.1 c []).2.2.1, 0)
def rd (b : List UInt8) : Nat → Int → Nat → Pr × Nat × Nat × Nat
  | 0, _, _ => (zero, 0, 0, 24)
  | f + 1, k, c =>
    if 40 < c + 1 then (zero, 0, 0, 4) else
    if (M.get b k).2.2 ≠ 0 then (zero, 0, 0, (M.get b k).2.2) else
    if (M.get b k).1 < 1 ∨ 10 < (M.get b k).1 then (zero, 0, 0, 12) else
    rd4 (fun k c => rd b f (k : Int) c) (c + 1) (rdH b (M.get b k).1 (M.get b k).2.1)
def dec (b : List UInt8) (p : Int) : Pr × Nat × Nat :=
  if (rd b 6 p 0).2.2.2 ≠ 0 then (zero, 0, (rd b 6 p 0).2.2.2) else
  if right (rd b 6 p 0).1 = true then ((rd b 6 p 0).1, (rd b 6 p 0).2.1, 0) else (zero, 0, 12)
theorem rdT_at {b : List UInt8} : ∀ (d : List (List UInt8)) (k : Nat) (o : List (List UInt8)), (∀ s ∈ d, s.length ≤ 40) → Lies b k (T.texts d) → rdT b d.length k o = (o ++ d, k + (T.texts d).length, 0)
  | [], k, o, _, _ => by simp [rdT, T.texts]
  | s :: d, k, o, hs, h => by
    rw [T.texts_cons] at h
    obtain ⟨h1, h2⟩ := h.app
    have hl := hs s (by simp)
    have g := h1.text (m := 40) (by omega) (by omega)
    rw [List.length_cons, rdT, g]
    simp only
    rw [if_neg (by simp), rdT_at d _ _ (fun x hx => hs x (by simp [hx])) h2, T.texts_cons]
    simp [Nat.add_assoc]
/-- What each kind asks, said out. -/
theorem part_cases {h : Hd} {n : Nat} (e : part h n = true) :
    (∃ k, (k = 1 ∨ k = 2) ∧ h = hk k) ∨ (h = hk 3 ∧ n = 1) ∨
    (∃ k c x, (k = 4 ∨ k = 5) ∧ Rw.name c = true ∧ h = ⟨k, c, x, 0, [], []⟩ ∧ n = 0) ∨
    (∃ k c s, (k = 6 ∨ k = 8) ∧ Rw.name c = true ∧ s.length ≤ 40 ∧ h = ⟨k, c, 0, 0, s, []⟩ ∧ n = 0) ∨
    (∃ c t, Rw.name c = true ∧ t.length ≤ 8 ∧ T.adj t = true ∧ (∀ s ∈ t, s.length ≤ 40) ∧ h = ⟨7, c, 0, 0, [], t⟩ ∧ n = 0) ∨
    (∃ c, Rw.name c = true ∧ h = ⟨9, c, 0, 0, [], []⟩ ∧ n = 0) ∨ (∃ x y, h = ⟨10, [], x, y, [], []⟩ ∧ n = 0) := by
  have e0 := e
  unfold part at e
  split at e
  · rename_i h1; exact .inl ⟨h.k, h1, part_all h1 e0⟩
  split at e
  · rename_i h1; exact .inr (.inl (part_not h1 e0))
  obtain ⟨k, c, x, m, s, t⟩ := h
  simp only at e
  split at e
  · rename_i h1
    simp only [Bool.and_eq_true, decide_eq_true_eq] at e
    obtain ⟨hc, rfl, rfl, rfl, rfl⟩ := e
    exact .inr (.inr (.inl ⟨k, c, x, h1, hc, rfl, rfl⟩))
  split at e
  · rename_i h1
    simp only [Bool.and_eq_true, decide_eq_true_eq] at e
    obtain ⟨hc, rfl, rfl, hs, rfl, rfl⟩ := e
    exact .inr (.inr (.inr (.inl ⟨k, c, s, h1, hc, hs, rfl, rfl⟩)))
  split at e
  · rename_i h1
    simp only [Bool.and_eq_true, decide_eq_true_eq, List.all_eq_true] at e
    obtain ⟨⟨⟨hc, rfl, rfl, rfl, rfl, ht⟩, ha⟩, hs⟩ := e
    subst h1
    exact .inr (.inr (.inr (.inr (.inl ⟨c, t, hc, ht, ha, hs, rfl, rfl⟩))))
  split at e
  · rename_i h1
    simp only [Bool.and_eq_true, decide_eq_true_eq] at e
    obtain ⟨hc, rfl, rfl, rfl, rfl, rfl⟩ := e
    subst h1
    exact .inr (.inr (.inr (.inr (.inr (.inl ⟨c, hc, rfl, rfl⟩)))))
  split at e
  · rename_i h1
    simp only [decide_eq_true_eq] at e
    obtain ⟨rfl, rfl, rfl, rfl⟩ := e
    subst h1
    exact .inr (.inr (.inr (.inr (.inr (.inr ⟨x, m, rfl, rfl⟩)))))
  · cases e
theorem name_len {s : List UInt8} (h : Rw.name s = true) : s.length ≤ 12 := ((Rw.name_iff s).1 h).2.2
theorem rdH_at {b : List UInt8} {h : Hd} {n k : Nat} (hp : part h n = true) (hx : In64 h.n) (hm : In64 h.m) (hn : n ≤ 40) (hl : Lies b k (encH h n)) :
    M.get b (k : Int) = (h.k.toNat, k + (M.digs h.k.toNat).length, 0) ∧ rdH b h.k.toNat (k + (M.digs h.k.toNat).length) = (h, n, k + (encH h n).length, 0) := by
  have hkk := part_kind hp
  unfold encH at hl
  obtain ⟨h1, h2⟩ := hl.app
  refine ⟨h1.get (by omega), ?_⟩
  rw [encH, List.length_append, ← Nat.add_assoc]
  obtain ⟨q, hq⟩ : ∃ q, k + (M.digs h.k.toNat).length = q := ⟨_, rfl⟩
  rw [hq] at h2 ⊢
  clear hl h1 hq
  rcases part_cases hp with ⟨K, hK, rfl⟩ | ⟨rfl, rfl⟩ | ⟨K, c, x, hK, hc, rfl, rfl⟩ | ⟨K, c, s, hK, hc, hs, rfl, rfl⟩ | ⟨c, t, hc, ht, ha, hs, rfl, rfl⟩ | ⟨c, hc, rfl, rfl⟩ | ⟨x, y, rfl, rfl⟩
  · have hK' : (hk K).k = K := rfl
    rw [hK', if_pos hK] at h2
    have g := h2.get (by omega)
    rw [hK', if_pos hK, rdH, if_pos (by omega), g]
    simp only
    rw [if_neg (by simp), if_neg (by omega), show ((K.toNat : Nat) : Int) = K by omega]
  · rw [show (hk 3).k = 3 from rfl, rdH, if_neg (by decide), if_pos (by decide), if_neg (by decide), if_pos rfl]
    simp
  · simp only at h2 hx ⊢
    rw [if_neg (by omega), if_neg (by omega), if_neg (by omega), if_pos hK] at h2 ⊢
    obtain ⟨h3, h4⟩ := h2.app
    have hcl := name_len hc
    have hz := Rw.zig_lt hx
    have g1 := h3.text (m := 12) (by omega) (by omega)
    have g2 := h4.get hz.1
    rw [rdH, if_neg (by omega), if_neg (by omega), if_neg (by omega), g1]
    simp only
    rw [if_neg (by simp), rdC2, if_pos (by omega), g2]
    simp only
    rw [if_neg (by simp), Int.toNat_of_nonneg hz.2, M.zag_zig, show ((K.toNat : Nat) : Int) = K by omega]
    simp [Nat.add_assoc]
  · simp only at h2 ⊢
    rw [if_neg (by omega), if_neg (by omega), if_neg (by omega), if_neg (by omega), if_pos hK] at h2 ⊢
    obtain ⟨h3, h4⟩ := h2.app
    have hcl := name_len hc
    have g1 := h3.text (m := 12) (by omega) (by omega)
    have g2 := h4.text (m := 40) (by omega) (by omega)
    rw [rdH, if_neg (by omega), if_neg (by omega), if_neg (by omega), g1]
    simp only
    rw [if_neg (by simp), rdC2, if_neg (by omega), if_pos (by omega), g2]
    simp only
    rw [if_neg (by simp), show ((K.toNat : Nat) : Int) = K by omega]
    simp [Nat.add_assoc]
  · simp only at h2 ⊢
    rw [if_neg (by omega), if_neg (by omega), if_neg (by omega), if_neg (by omega), if_neg (by omega), if_pos trivial] at h2 ⊢
    obtain ⟨h3, h4⟩ := h2.app
    obtain ⟨h5, h6⟩ := h4.app
    have hcl := name_len hc
    have g1 := h3.text (m := 12) (by omega) (by omega)
    have g2 := h5.get (by omega)
    have g3 := rdT_at t _ [] hs h6
    rw [rdH, if_neg (by decide), if_neg (by decide), if_neg (by decide), g1]
    simp only
    rw [if_neg (by simp), rdC2, if_neg (by decide), if_neg (by decide), if_pos (by decide), g2]
    simp only
    rw [if_neg (by simp), if_neg (by omega), g3]
    simp only
    rw [if_neg (by simp)]
    simp [Nat.add_assoc]
  · simp only at h2 ⊢
    rw [if_neg (by omega), if_neg (by omega), if_neg (by omega), if_neg (by omega), if_neg (by omega), if_neg (by omega)] at h2 ⊢
    rw [List.append_nil] at h2 ⊢
    have hcl := name_len hc
    have g1 := h2.text (m := 12) (by omega) (by omega)
    rw [rdH, if_neg (by decide), if_neg (by decide), if_neg (by decide), g1]
    simp only
    rw [if_neg (by simp), rdC2, if_neg (by decide), if_neg (by decide), if_neg (by decide)]
    rfl
  · simp only at h2 hx hm ⊢
    rw [if_neg (by omega), if_neg (by omega), if_pos trivial] at h2 ⊢
    obtain ⟨h3, h4⟩ := h2.app
    have hz := Rw.zig_lt hx
    have hy := Rw.zig_lt hm
    have g1 := h3.get hz.1
    have g2 := h4.get hy.1
    rw [rdH, if_neg (by decide), if_neg (by decide), if_pos (by decide), g1]
    simp only
    rw [if_neg (by simp), g2]
    simp only
    rw [if_neg (by simp), Int.toNat_of_nonneg hz.2, M.zag_zig, Int.toNat_of_nonneg hy.2, M.zag_zig]
    simp [Nat.add_assoc]
theorem rdK_at {b : List UInt8} {R : Nat → Nat → Pr × Nat × Nat × Nat} : ∀ (l : List Pr), (∀ x ∈ l, ∀ k c, c + size x ≤ 40 → Lies b k (enc x) → R k c = (x, k + (enc x).length, c + size x, 0)) →
    ∀ (k c : Nat) (o : List Pr), c + (l.map size).sum ≤ 40 → Lies b k (l.map enc).flatten → rdK R l.length k c o = (o ++ l, k + (l.map enc).flatten.length, c + (l.map size).sum, 0)
  | [], _, k, c, o, _, _ => by simp [rdK]
  | x :: l, hR, k, c, o, hc, hl => by
    rw [List.map_cons, List.flatten_cons] at hl
    rw [List.map_cons, List.sum_cons] at hc
    obtain ⟨h1, h2⟩ := hl.app
    have g := hR x (by simp) k c (by omega) h1
    rw [List.length_cons, rdK, g]
    simp only
    rw [if_neg (by simp), rdK_at l (fun y hy => hR y (by simp [hy])) _ _ _ (by omega) h2]
    simp [Nat.add_assoc]
theorem size_pos : ∀ p, 1 ≤ size p := by
  refine tree ?_
  intro h l _
  rw [size_mk]; omega
theorem sum_len : ∀ (l : List Pr), l.length ≤ (l.map size).sum
  | [] => by simp
  | x :: l => by
    have h1 := size_pos x
    have h2 := sum_len l
    rw [List.map_cons, List.sum_cons, List.length_cons]; omega
theorem deep_in {l : List Pr} {x : Pr} (h : x ∈ l) : deep x ≤ (l.map deep).foldr max 0 := by
  induction l with
  | nil => simp at h
  | cons y t ih =>
    rw [List.map_cons, List.foldr_cons]
    rcases List.mem_cons.1 h with rfl | h
    · omega
    · have := ih h; omega
theorem rd_at {b : List UInt8} : ∀ p, form p = true → num p → ∀ f k c, deep p ≤ f → c + size p ≤ 40 → Lies b k (enc p) → rd b f (k : Int) c = (p, k + (enc p).length, c + size p, 0) := by
  refine tree ?_
  intro h l ih hf hn f k c hd hs hl
  rw [form_mk, Bool.and_eq_true, List.all_eq_true] at hf
  obtain ⟨hp, hk2⟩ := hf
  rw [num_mk] at hn
  obtain ⟨⟨hn1, hn2⟩, hn3⟩ := hn
  rw [deep_mk] at hd
  rw [size_mk] at hs ⊢
  rw [enc_mk] at hl ⊢
  obtain ⟨h1, h2⟩ := hl.app
  have hlen := sum_len l
  obtain ⟨g1, g2⟩ := rdH_at hp hn1 hn2 (by omega) h1
  have hkk := part_kind hp
  cases f with
  | zero => omega
  | succ f =>
    rw [rd, if_neg (by omega), g1]
    simp only
    rw [if_neg (by simp), if_neg (by omega), g2, rd4]
    simp only
    have g3 := rdK_at (b := b) (R := fun k c => rd b f (k : Int) c) l (fun x hx k c hc hE => ih x hx (hk2 x hx) (hn3 x hx) f k c (by have := deep_in hx; omega) hc hE) (k + (encH h l.length).length) (c + 1) [] (by omega) h2
    rw [if_neg (by simp), g3]
    simp only
    rw [if_neg (by simp), List.nil_append, List.length_append, Nat.add_assoc, Nat.add_assoc]
/-- What is written is read, behind whatever. -/
theorem dec_enc {b : List UInt8} {p : Pr} {k : Nat} (h : right p = true) (hn : num p) (hl : Lies b k (enc p)) : dec b (k : Int) = (p, k + (enc p).length, 0) := by
  have h0 := h
  unfold right at h
  simp only [Bool.and_eq_true, decide_eq_true_eq] at h
  obtain ⟨⟨h1, h2⟩, h3⟩ := h
  have g := rd_at p h3 hn 6 k 0 h1 (by omega) hl
  unfold dec
  rw [g]
  simp only
  rw [if_neg (by simp), if_pos h0]
theorem rdT_back {b : List UInt8} : ∀ (n p : Nat) (o l : List (List UInt8)) (k : Nat), p ≤ b.length → rdT b n p o = (l, k, 0) → p ≤ k ∧ k ≤ b.length ∧ ∃ m, l = o ++ m ∧ m.length = n ∧ b.take k = b.take p ++ T.texts m
  | 0, p, o, l, k, hp, h => by
    simp only [rdT, Prod.mk.injEq, and_true] at h
    obtain ⟨rfl, rfl⟩ := h
    exact ⟨Nat.le_refl _, hp, [], by simp, rfl, by simp [T.texts]⟩
  | n + 1, p, o, l, k, hp, h => by
    rw [rdT] at h
    split at h
    · rename_i e; simp only [Prod.mk.injEq] at h; exact absurd h.2.2 e
    rename_i e1
    obtain ⟨s, k1, g1⟩ : ∃ v m, M.getText b (p : Int) 40 = (v, m, 0) := ⟨_, _, Prod.ext rfl (Prod.ext rfl (Decidable.not_not.1 e1))⟩
    rw [g1] at h
    simp only at h
    obtain ⟨a1, a2, a3, a4⟩ := Rw.text_back g1
    obtain ⟨b1, b2, m, hm, hml, hbt⟩ := rdT_back n k1 (o ++ [s]) l k a2 h
    refine ⟨by omega, b2, s :: m, by rw [hm]; simp, by simp [hml], ?_⟩
    rw [hbt, a3, T.texts_cons]
    simp
theorem in0 : In64 0 := ⟨by decide, by decide⟩
theorem rdC2_back {b : List UInt8} {K k n k' : Nat} {c : List UInt8} {h : Hd} (hK : 4 ≤ K ∧ K ≤ 9) (hk0 : k ≤ b.length) (e : rdC2 b K c k = (h, n, k', 0)) :
    k ≤ k' ∧ k' ≤ b.length ∧ b.take k' ++ [] = b.take k ++ (if h.k = 4 ∨ h.k = 5 then M.digs (M.zig h.n).toNat else if h.k = 6 ∨ h.k = 8 then T.ptext h.s else if h.k = 7 then M.digs h.set.length ++ T.texts h.set else []) ∧ h.k = (K : Int) ∧ h.col = c ∧ n = 0 ∧ In64 h.n ∧ In64 h.m := by
  unfold rdC2 at e
  split at e
  · rename_i h1
    split at e
    · rename_i e1; simp only [Prod.mk.injEq] at e; exact absurd e.2.2.2 e1
    rename_i e1
    obtain ⟨x, k1, g1⟩ : ∃ v m, M.get b (k : Int) = (v, m, 0) := ⟨_, _, Prod.ext rfl (Prod.ext rfl (Decidable.not_not.1 e1))⟩
    rw [g1] at e
    simp only [Prod.mk.injEq, and_true] at e
    obtain ⟨rfl, rfl, rfl⟩ := e
    obtain ⟨a1, a2, a3, a4⟩ := Rw.get_at g1
    refine ⟨a1, a2, ?_, rfl, rfl, rfl, Rw.zag_in a4, in0⟩
    simp only
    rw [if_pos (by omega), List.append_nil, a3, M.zig_zag _ (by omega)]
    simp
  split at e
  · rename_i h0 h1
    split at e
    · rename_i e1; simp only [Prod.mk.injEq] at e; exact absurd e.2.2.2 e1
    rename_i e1
    obtain ⟨x, k1, g1⟩ : ∃ v m, M.getText b (k : Int) 40 = (v, m, 0) := ⟨_, _, Prod.ext rfl (Prod.ext rfl (Decidable.not_not.1 e1))⟩
    rw [g1] at e
    simp only [Prod.mk.injEq, and_true] at e
    obtain ⟨rfl, rfl, rfl⟩ := e
    obtain ⟨a1, a2, a3, a4⟩ := Rw.text_back g1
    refine ⟨a1, a2, ?_, rfl, rfl, rfl, in0, in0⟩
    simp only
    rw [if_neg (by omega), if_pos (by omega), List.append_nil, a3]
  split at e
  · rename_i h0 h1 h7
    split at e
    · rename_i e1; simp only [Prod.mk.injEq] at e; exact absurd e.2.2.2 e1
    rename_i e1
    obtain ⟨x, k1, g1⟩ : ∃ v m, M.get b (k : Int) = (v, m, 0) := ⟨_, _, Prod.ext rfl (Prod.ext rfl (Decidable.not_not.1 e1))⟩
    rw [g1] at e
    simp only at e
    split at e
    · simp at e
    split at e
    · rename_i e2; simp only [Prod.mk.injEq] at e; exact absurd e.2.2.2 e2
    rename_i e2
    obtain ⟨d, k2, g2⟩ : ∃ v m, rdT b x k1 [] = (v, m, 0) := ⟨_, _, Prod.ext rfl (Prod.ext rfl (Decidable.not_not.1 e2))⟩
    rw [g2] at e
    simp only [Prod.mk.injEq, and_true] at e
    obtain ⟨rfl, rfl, rfl⟩ := e
    obtain ⟨a1, a2, a3, a4⟩ := Rw.get_at g1
    obtain ⟨b1, b2, m, hm, hml, hbt⟩ := rdT_back x k1 [] d k2 a2 g2
    rw [List.nil_append] at hm
    subst hm
    refine ⟨by omega, b2, ?_, rfl, rfl, rfl, in0, in0⟩
    simp only
    rw [if_neg (by omega), if_neg (by omega), if_pos (by omega), List.append_nil, hbt, a3, hml, List.append_assoc]
  · rename_i h0 h1 h7
    simp only [Prod.mk.injEq, and_true] at e
    obtain ⟨rfl, rfl, rfl⟩ := e
    refine ⟨Nat.le_refl _, hk0, ?_, rfl, rfl, rfl, in0, in0⟩
    simp only
    rw [if_neg (by omega), if_neg (by omega), if_neg (by omega)]
theorem rdH_back {b : List UInt8} {K k0 k n k' : Nat} {h : Hd} (hK : 1 ≤ K ∧ K ≤ 10) (g0 : M.get b (k0 : Int) = (K, k, 0)) (e : rdH b K k = (h, n, k', 0)) :
    k0 ≤ k' ∧ k' ≤ b.length ∧ b.take k' = b.take k0 ++ encH h n ∧ In64 h.n ∧ In64 h.m := by
  obtain ⟨z1, z2, z3, z4⟩ := Rw.get_at g0
  unfold rdH at e
  split at e
  · rename_i h1
    split at e
    · rename_i e1; simp only [Prod.mk.injEq] at e; exact absurd e.2.2.2 e1
    rename_i e1
    obtain ⟨x, k1, g1⟩ : ∃ v m, M.get b (k : Int) = (v, m, 0) := ⟨_, _, Prod.ext rfl (Prod.ext rfl (Decidable.not_not.1 e1))⟩
    rw [g1] at e
    simp only at e
    split at e
    · simp at e
    simp only [Prod.mk.injEq, and_true] at e
    obtain ⟨rfl, rfl, rfl⟩ := e
    obtain ⟨a1, a2, a3, a4⟩ := Rw.get_at g1
    refine ⟨by omega, a2, ?_, in0, in0⟩
    rw [a3, z3, encH, show (hk (K : Int)).k = (K : Int) from rfl, if_pos (by omega), Int.toNat_natCast, List.append_assoc]
  split at e
  · rename_i h1 h3
    simp only [Prod.mk.injEq, and_true] at e
    obtain ⟨rfl, rfl, rfl⟩ := e
    subst h3
    refine ⟨by omega, z2, ?_, in0, in0⟩
    rw [z3, encH, show (hk 3).k = 3 from rfl, if_neg (by decide), if_pos rfl, List.append_nil]
    rfl
  split at e
  · rename_i h1 h3 h10
    split at e
    · rename_i e1; simp only [Prod.mk.injEq] at e; exact absurd e.2.2.2 e1
    rename_i e1
    obtain ⟨x, k1, g1⟩ : ∃ v m, M.get b (k : Int) = (v, m, 0) := ⟨_, _, Prod.ext rfl (Prod.ext rfl (Decidable.not_not.1 e1))⟩
    rw [g1] at e
    simp only at e
    split at e
    · rename_i e1; simp only [Prod.mk.injEq] at e; exact absurd e.2.2.2 e1
    rename_i e2
    obtain ⟨y, k2, g2⟩ : ∃ v m, M.get b (k1 : Int) = (v, m, 0) := ⟨_, _, Prod.ext rfl (Prod.ext rfl (Decidable.not_not.1 e2))⟩
    rw [g2] at e
    simp only [Prod.mk.injEq, and_true] at e
    obtain ⟨rfl, rfl, rfl⟩ := e
    subst h10
    obtain ⟨a1, a2, a3, a4⟩ := Rw.get_at g1
    obtain ⟨b1, b2, b3, b4⟩ := Rw.get_at g2
    refine ⟨by omega, b2, ?_, Rw.zag_in a4, Rw.zag_in b4⟩
    rw [b3, a3, z3, encH]
    simp only
    rw [if_neg (by decide), if_neg (by decide), if_pos trivial, M.zig_zag _ (by omega), M.zig_zag _ (by omega)]
    simp
  · rename_i h1 h3 h10
    split at e
    · rename_i e1; simp only [Prod.mk.injEq] at e; exact absurd e.2.2.2 e1
    rename_i e1
    obtain ⟨c, k1, g1⟩ : ∃ v m, M.getText b (k : Int) 12 = (v, m, 0) := ⟨_, _, Prod.ext rfl (Prod.ext rfl (Decidable.not_not.1 e1))⟩
    rw [g1] at e
    simp only at e
    obtain ⟨a1, a2, a3, a4⟩ := Rw.text_back g1
    obtain ⟨b1, b2, b3, b4, b5, b6, b7, b8⟩ := rdC2_back (by omega) a2 e
    refine ⟨by omega, b2, ?_, b7, b8⟩
    rw [List.append_nil] at b3
    rw [b3, a3, z3, encH]
    rw [if_neg (show ¬ (h.k = 1 ∨ h.k = 2) by omega), if_neg (show ¬ h.k = 3 by omega), if_neg (show ¬ h.k = 10 by omega), b5, show h.k.toNat = K by omega]
    simp only [List.append_assoc]
theorem rdK_back {b : List UInt8} {R : Nat → Nat → Pr × Nat × Nat × Nat} (hR : ∀ k c p k' c', k ≤ b.length → R k c = (p, k', c', 0) → k ≤ k' ∧ k' ≤ b.length ∧ b.take k' = b.take k ++ enc p ∧ num p) :
    ∀ (n k c : Nat) (o l : List Pr) (k' c' : Nat), k ≤ b.length → rdK R n k c o = (l, k', c', 0) → k ≤ k' ∧ k' ≤ b.length ∧ ∃ m, l = o ++ m ∧ m.length = n ∧ b.take k' = b.take k ++ (m.map enc).flatten ∧ ∀ x ∈ m, num x
  | 0, k, c, o, l, k', c', hk, h => by
    simp only [rdK, Prod.mk.injEq, and_true] at h
    obtain ⟨rfl, rfl, rfl⟩ := h
    exact ⟨Nat.le_refl _, hk, [], by simp, rfl, by simp, by simp⟩
  | n + 1, k, c, o, l, k', c', hk, h => by
    rw [rdK] at h
    split at h
    · rename_i e; simp only [Prod.mk.injEq] at h; exact absurd h.2.2.2 e
    rename_i e1
    obtain ⟨p, k1, c1, g1⟩ : ∃ v m d, R k c = (v, m, d, 0) := ⟨_, _, _, Prod.ext rfl (Prod.ext rfl (Prod.ext rfl (Decidable.not_not.1 e1)))⟩
    rw [g1] at h
    simp only at h
    obtain ⟨a1, a2, a3, a4⟩ := hR k c p k1 c1 hk g1
    obtain ⟨b1, b2, m, hm, hml, hbt, hn⟩ := rdK_back hR n k1 c1 (o ++ [p]) l k' c' a2 h
    refine ⟨by omega, b2, p :: m, by rw [hm]; simp, by simp [hml], ?_, ?_⟩
    · rw [hbt, a3]; simp
    · intro x hx
      rcases List.mem_cons.1 hx with rfl | hx
      · exact a4
      · exact hn x hx
theorem rd_back {b : List UInt8} : ∀ (f k c : Nat) (p : Pr) (k' c' : Nat), rd b f (k : Int) c = (p, k', c', 0) → k ≤ k' ∧ k' ≤ b.length ∧ b.take k' = b.take k ++ enc p ∧ num p
  | 0, k, c, p, k', c', h => by simp [rd] at h
  | f + 1, k, c, p, k', c', h => by
    rw [rd] at h
    split at h
    · simp at h
    split at h
    · rename_i e; simp only [Prod.mk.injEq] at h; exact absurd h.2.2.2 e
    rename_i e1
    obtain ⟨K, k1, g1⟩ : ∃ v m, M.get b (k : Int) = (v, m, 0) := ⟨_, _, Prod.ext rfl (Prod.ext rfl (Decidable.not_not.1 e1))⟩
    rw [g1] at h
    simp only at h
    split at h
    · simp at h
    rename_i hK
    obtain ⟨hd', n, k2, y, g2⟩ : ∃ a d m y, rdH b K k1 = (a, d, m, y) := ⟨_, _, _, _, rfl⟩
    rw [g2, rd4] at h
    simp only at h
    split at h
    · rename_i e; simp only [Prod.mk.injEq] at h; exact absurd h.2.2.2 e
    rename_i e2
    have e2 := Decidable.not_not.1 e2
    subst e2
    split at h
    · rename_i e; simp only [Prod.mk.injEq] at h; exact absurd h.2.2.2 e
    rename_i e3
    obtain ⟨l, k3, c3, g3⟩ : ∃ v m d, rdK (fun k c => rd b f (k : Int) c) n k2 (c + 1) [] = (v, m, d, 0) := ⟨_, _, _, Prod.ext rfl (Prod.ext rfl (Prod.ext rfl (Decidable.not_not.1 e3)))⟩
    rw [g3] at h
    simp only [Prod.mk.injEq, and_true] at h
    obtain ⟨rfl, rfl, rfl⟩ := h
    obtain ⟨a1, a2, a3, a4, a5⟩ := rdH_back (by omega) g1 g2
    obtain ⟨b1, b2, m, hm, hml, hbt, hn⟩ := rdK_back (b := b) (fun k c p k' c' _ h => rd_back f k c p k' c' h) n k2 (c + 1) [] l k3 c3 a2 g3
    rw [List.nil_append] at hm
    subst hm
    refine ⟨by omega, b2, ?_, (num_mk _ _).2 ⟨⟨a4, a5⟩, hn⟩⟩
    rw [hbt, a3, enc_mk, hml, List.append_assoc]
/-- What is read is Right, and its bytes are those that are written. -/
theorem dec_ok {b : List UInt8} {k k' : Nat} {p : Pr} (h : dec b (k : Int) = (p, k', 0)) : right p = true ∧ k ≤ k' ∧ k' ≤ b.length ∧ b.take k' = b.take k ++ enc p ∧ num p := by
  unfold dec at h
  split at h
  · rename_i e; simp only [Prod.mk.injEq] at h; exact absurd h.2.2 e
  rename_i e1
  obtain ⟨q, k1, c1, g1⟩ : ∃ v m d, rd b 6 (k : Int) 0 = (v, m, d, 0) := ⟨_, _, _, Prod.ext rfl (Prod.ext rfl (Prod.ext rfl (Decidable.not_not.1 e1)))⟩
  rw [g1] at h
  simp only at h
  split at h
  · rename_i hr
    simp only [Prod.mk.injEq, and_true] at h
    obtain ⟨rfl, rfl⟩ := h
    obtain ⟨a1, a2, a3, a4⟩ := rd_back 6 k 0 q k1 c1 g1
    exact ⟨hr, a1, a2, a3, a4⟩
  · simp at h
end Pd
end Go.Proofs.Ytibnhjfeepdddaa
