/-
  Plain facts on texts that are put in order by joining rows two by two. No program here.
-/
import Derived.Test.YtnmonoafjijfhaaGreatM08
namespace Go.Proofs.YtnmonoafjijfhaaGreat.T
set_option linter.unusedVariables false

/-- Not above, as the program asks it. -/
def le (x y : B) : Bool := lt x y || x == y
theorem le_not {x y : B} : le x y = true ↔ lt y x = false := by
  unfold le
  constructor
  · intro h
    rcases Bool.or_eq_true_iff.1 h with h | h
    · exact lt_asymm h
    · have e : x = y := by simpa using h
      rw [e]; exact lt_irrefl y
  · intro h
    rcases ge_iff h with rfl | h
    · simp
    · simp [h]
theorem not_le {x y : B} (h : le x y = false) : lt y x = true := by
  cases e : lt y x with
  | true => rfl
  | false => rw [le_not.2 e] at h; cases h
/-- None falls. -/
def Srt (d : List B) : Prop := d.Pairwise fun x y => lt y x = false
theorem srt_cons {x : B} {d : List B} : Srt (x :: d) ↔ (∀ y ∈ d, lt y x = false) ∧ Srt d := List.pairwise_cons
theorem ge_trans {x y z : B} (h1 : lt y x = false) (h2 : lt z y = false) : lt z x = false := by
  cases e : lt z x with
  | false => rfl
  | true =>
    rcases ge_iff h1 with rfl | h
    · rw [h2] at e; cases e
    · have := lt_trans e h; rw [h2] at this; cases this
/-- Two rows joined. -/
def mg : Nat → List B → List B → List B
  | 0, _, _ => []
  | k + 1, [], [] => []
  | k + 1, x :: a, [] => x :: mg k a []
  | k + 1, [], y :: b => y :: mg k [] b
  | k + 1, x :: a, y :: b => if le x y = true then x :: mg k a (y :: b) else y :: mg k (x :: a) b
theorem mg_mem (x : B) : ∀ (k : Nat) (a b : List B), a.length + b.length ≤ k → (x ∈ mg k a b ↔ x ∈ a ∨ x ∈ b)
  | 0, a, b, h => by
    have ha : a = [] := List.eq_nil_of_length_eq_zero (by omega)
    have hb : b = [] := List.eq_nil_of_length_eq_zero (by omega)
    subst ha; subst hb; simp [mg]
  | k + 1, [], [], h => by simp [mg]
  | k + 1, y :: a, [], h => by
    rw [mg, List.mem_cons, mg_mem x k a [] (by simp at h ⊢; omega)]; simp
  | k + 1, [], y :: b, h => by
    rw [mg, List.mem_cons, mg_mem x k [] b (by simp at h ⊢; omega)]; simp
  | k + 1, y :: a, z :: b, h => by
    rw [mg]
    split
    · rw [List.mem_cons, mg_mem x k a (z :: b) (by simp at h ⊢; omega)]
      simp only [List.mem_cons, or_assoc]
    · rw [List.mem_cons, mg_mem x k (y :: a) b (by simp at h ⊢; omega)]
      simp only [List.mem_cons]
      constructor
      · rintro (h | (h | h) | h)
        · exact .inr (.inl h)
        · exact .inl (.inl h)
        · exact .inl (.inr h)
        · exact .inr (.inr h)
      · rintro ((h | h) | h | h)
        · exact .inr (.inl (.inl h))
        · exact .inr (.inl (.inr h))
        · exact .inl h
        · exact .inr (.inr h)
theorem mg_len : ∀ (k : Nat) (a b : List B), a.length + b.length ≤ k → (mg k a b).length = a.length + b.length
  | 0, a, b, h => by simp [mg]; omega
  | k + 1, [], [], h => by simp [mg]
  | k + 1, y :: a, [], h => by
    rw [mg, List.length_cons, mg_len k a [] (by simp at h ⊢; omega)]; simp
  | k + 1, [], y :: b, h => by
    rw [mg, List.length_cons, mg_len k [] b (by simp at h ⊢; omega)]; simp
  | k + 1, y :: a, z :: b, h => by
    rw [mg]
    split
    · rw [List.length_cons, mg_len k a (z :: b) (by simp at h ⊢; omega)]; simp; omega
    · rw [List.length_cons, mg_len k (y :: a) b (by simp at h ⊢; omega)]; simp; omega
theorem mg_srt : ∀ (k : Nat) (a b : List B), a.length + b.length ≤ k → Srt a → Srt b → Srt (mg k a b)
  | 0, a, b, h, ha, hb => by simp [mg, Srt]
  | k + 1, [], [], h, ha, hb => by simp [mg, Srt]
  | k + 1, y :: a, [], h, ha, hb => by
    have ha' := srt_cons.1 ha
    have hk : a.length + ([] : List B).length ≤ k := by simp at h ⊢; omega
    rw [mg, srt_cons]
    refine ⟨fun z hz => ?_, mg_srt k a [] hk ha'.2 hb⟩
    rcases (mg_mem z k a [] hk).1 hz with hz | hz
    · exact ha'.1 z hz
    · simp at hz
  | k + 1, [], y :: b, h, ha, hb => by
    have hb' := srt_cons.1 hb
    have hk : ([] : List B).length + b.length ≤ k := by simp at h ⊢; omega
    rw [mg, srt_cons]
    refine ⟨fun z hz => ?_, mg_srt k [] b hk ha hb'.2⟩
    rcases (mg_mem z k [] b hk).1 hz with hz | hz
    · simp at hz
    · exact hb'.1 z hz
  | k + 1, y :: a, z :: b, h, ha, hb => by
    have ha' := srt_cons.1 ha
    have hb' := srt_cons.1 hb
    rw [mg]
    split
    · rename_i hle
      have hk : a.length + (z :: b).length ≤ k := by simp at h ⊢; omega
      rw [srt_cons]
      refine ⟨fun u hu => ?_, mg_srt k a (z :: b) hk ha'.2 hb⟩
      rcases (mg_mem u k a (z :: b) hk).1 hu with hu | hu
      · exact ha'.1 u hu
      · rcases List.mem_cons.1 hu with rfl | hu
        · exact le_not.1 hle
        · exact ge_trans (le_not.1 hle) (hb'.1 u hu)
    · rename_i hle
      have hzy : lt z y = true := not_le (by simpa using hle)
      have hk : (y :: a).length + b.length ≤ k := by simp at h ⊢; omega
      rw [srt_cons]
      refine ⟨fun u hu => ?_, mg_srt k (y :: a) b hk ha hb'.2⟩
      rcases (mg_mem u k (y :: a) b hk).1 hu with hu | hu
      · rcases List.mem_cons.1 hu with rfl | hu
        · exact lt_asymm hzy
        · exact ge_trans (lt_asymm hzy) (ha'.1 u hu)
      · exact hb'.1 u hu
/-- Rows of s are in order. -/
def Ch (s : Nat) (F : List B) : Prop := ∀ k, Srt ((F.drop (k * s)).take s)
theorem ch_one (F : List B) : Ch 1 F := by
  intro k
  generalize F.drop (k * 1) = d
  cases d with
  | nil => simp [Srt]
  | cons x r => simp [Srt]
theorem ch_all {s : Nat} {F : List B} (h : Ch s F) (hs : F.length ≤ s) : Srt F := by
  have := h 0
  rwa [Nat.zero_mul, List.drop_zero, List.take_of_length_le hs] at this
/-- One round: rows joined two by two. -/
def pass : Nat → Nat → List B → List B
  | 0, _, _ => []
  | k + 1, s, F => mg ((F.take s).length + ((F.drop s).take s).length) (F.take s) ((F.drop s).take s) ++ pass k s (F.drop (2 * s))
theorem pass_nil (s : Nat) : ∀ k, pass k s [] = []
  | 0 => rfl
  | k + 1 => by simp [pass, mg, pass_nil s k]
theorem pass_len (s : Nat) (hs : 0 < s) : ∀ (k : Nat) (F : List B), F.length ≤ k → (pass k s F).length = F.length
  | 0, F, h => by simp [pass]; omega
  | k + 1, F, h => by
    rw [pass, List.length_append, mg_len _ _ _ (Nat.le_refl _), pass_len s hs k (F.drop (2 * s)) (by simp; omega)]
    simp
    omega
theorem mem_take_drop (x : B) (n : Nat) (F : List B) : x ∈ F ↔ x ∈ F.take n ∨ x ∈ F.drop n := by
  have h : x ∈ F.take n ++ F.drop n ↔ x ∈ F := by rw [List.take_append_drop]
  rw [← h, List.mem_append]
theorem pass_mem (x : B) (s : Nat) (hs : 0 < s) : ∀ (k : Nat) (F : List B), F.length ≤ k → (x ∈ pass k s F ↔ x ∈ F)
  | 0, F, h => by
    have : F = [] := List.eq_nil_of_length_eq_zero (by omega)
    subst this; simp [pass]
  | k + 1, F, h => by
    rw [pass, List.mem_append, mg_mem _ _ _ _ (Nat.le_refl _), pass_mem x s hs k (F.drop (2 * s)) (by simp; omega)]
    rw [mem_take_drop x s F, mem_take_drop x s (F.drop s), List.drop_drop, or_assoc, show s + s = 2 * s from by omega]
theorem pass_ch (s : Nat) (hs : 0 < s) : ∀ (k : Nat) (F : List B), F.length ≤ k → Ch s F → Ch (2 * s) (pass k s F)
  | 0, F, h, hc => by intro j; simp [pass, Srt]
  | k + 1, F, h, hc => by
    have hc0 := hc 0
    have hc1 := hc 1
    rw [Nat.zero_mul, List.drop_zero] at hc0
    rw [Nat.one_mul] at hc1
    have hM := mg_srt _ (F.take s) ((F.drop s).take s) (Nat.le_refl _) hc0 hc1
    have hL := mg_len _ (F.take s) ((F.drop s).take s) (Nat.le_refl _)
    have hch : Ch s (F.drop (2 * s)) := by
      intro j
      rw [List.drop_drop, show 2 * s + j * s = (j + 2) * s from by rw [Nat.add_mul, Nat.add_comm]]
      exact hc (j + 2)
    have ih := pass_ch s hs k (F.drop (2 * s)) (by simp; omega) hch
    rw [pass]
    generalize hMd : mg ((F.take s).length + ((F.drop s).take s).length) (F.take s) ((F.drop s).take s) = M at *
    intro j
    by_cases h2 : 2 * s ≤ F.length
    · have hM2 : M.length = 2 * s := by rw [hL]; simp; omega
      cases j with
      | zero =>
        rw [Nat.zero_mul, List.drop_zero, ← hM2, List.take_left]
        exact hM
      | succ j =>
        rw [show (j + 1) * (2 * s) = M.length + j * (2 * s) from by rw [hM2, Nat.add_mul, Nat.one_mul, Nat.add_comm], ← List.drop_drop, List.drop_left]
        exact ih j
    · have hE : F.drop (2 * s) = [] := List.drop_eq_nil_of_le (by omega)
      rw [hE, pass_nil, List.append_nil]
      have hM2 : M.length ≤ 2 * s := by rw [hL]; simp; omega
      cases j with
      | zero =>
        rw [Nat.zero_mul, List.drop_zero, List.take_of_length_le hM2]
        exact hM
      | succ j =>
        rw [List.drop_eq_nil_of_le (by rw [Nat.add_mul]; omega)]
        simp [Srt]
/-- One step of a round. -/
theorem pass_step {s p n m e k : Nat} {F Tt A C G0 : List B} (hs : 0 < s) (hF : F.length = n) (hT : Tt.length = n) (hp : p < n) (hm : m = min (p + s) n) (he : e = min (m + s) n)
    (hA : A = (F.drop p).take (m - p)) (hC : C = (F.drop m).take (e - m)) (hG : mg (A.length + C.length) A C = G0) :
    A.length = m - p ∧ C.length = e - m ∧ (Tt.take p ++ G0 ++ Tt.drop (p + (A.length + C.length))).length = n ∧
    (Tt.take p ++ G0 ++ Tt.drop (p + (A.length + C.length))).take (p + 2 * s) ++ pass k s (F.drop (p + 2 * s)) = Tt.take p ++ pass (k + 1) s (F.drop p) := by
  have hAl : A.length = m - p := by rw [hA]; simp; omega
  have hCl : C.length = e - m := by rw [hC]; simp; omega
  have hGl : G0.length = A.length + C.length := by rw [← hG]; exact mg_len _ _ _ (Nat.le_refl _)
  have hA2 : A = (F.drop p).take s := by
    rw [hA]
    by_cases h : p + s ≤ n
    · rw [show m - p = s from by omega]
    · rw [List.take_of_length_le (by simp; omega), List.take_of_length_le (by simp; omega)]
  have hC2 : C = ((F.drop p).drop s).take s := by
    rw [hC, List.drop_drop]
    by_cases h : p + s ≤ n
    · rw [show m = p + s from by omega]
      by_cases h2 : p + s + s ≤ n
      · rw [show e - (p + s) = s from by omega]
      · rw [List.take_of_length_le (by simp; omega), List.take_of_length_le (by simp; omega)]
    · rw [List.drop_eq_nil_of_le (by omega), List.drop_eq_nil_of_le (by omega)]
      simp
  refine ⟨hAl, hCl, ?_, ?_⟩
  · simp; omega
  · have hpl : (Tt.take p ++ G0).length = e := by simp; omega
    have ht : (Tt.take p ++ G0 ++ Tt.drop (p + (A.length + C.length))).take (p + 2 * s) = Tt.take p ++ G0 := by
      by_cases h : p + 2 * s ≤ n
      · rw [show p + 2 * s = (Tt.take p ++ G0).length from by omega, List.take_left]
      · rw [List.drop_eq_nil_of_le (by omega), List.append_nil, List.take_of_length_le (by omega)]
    rw [ht, pass, ← hA2, ← hC2, hG, List.drop_drop, List.append_assoc]
/-- Texts in order, each once: one more. -/
theorem uniq_new {l O : List B} {k : Nat} {x : B} (hS : Srt l) (hx : l[k]? = some x) (hO : ∀ y, y ∈ O ↔ y ∈ l.take k) (hR : Rise O) (hne : ∀ y, 0 < k → l[k - 1]? = some y → x ≠ y) : Rise (O ++ [x]) := by
  rw [Rise, List.pairwise_append]
  refine ⟨hR, by simp, fun y hy z hz => ?_⟩
  have hz' : z = x := by simpa using hz
  subst hz'
  have hk : 0 < k := by
    rcases Nat.eq_zero_or_pos k with h | h
    · subst h; rw [hO] at hy; simp at hy
    · exact h
  have hkl := (List.getElem?_eq_some_iff.1 hx).1
  obtain ⟨u, hu⟩ : ∃ u, l[k - 1]? = some u := ⟨_, List.getElem?_eq_getElem (by omega)⟩
  have hzu := hne u hk hu
  have ge : ∀ (i j : Nat) (a b : B), i < j → l[i]? = some a → l[j]? = some b → lt b a = false := by
    intro i j a b hij ha hb
    obtain ⟨h1, rfl⟩ := List.getElem?_eq_some_iff.1 ha
    obtain ⟨h2, rfl⟩ := List.getElem?_eq_some_iff.1 hb
    exact (List.pairwise_iff_getElem.1 hS) i j h1 h2 hij
  have huz : lt u z = true := by
    rcases ge_iff (ge (k - 1) k u z (by omega) hu hx) with h | h
    · exact absurd h hzu
    · exact h
  obtain ⟨i, hi⟩ := List.getElem?_of_mem ((hO y).1 hy)
  rw [List.getElem?_take] at hi
  split at hi
  · rename_i hik
    by_cases he : i = k - 1
    · subst he; rw [hu] at hi; simp at hi; rw [← hi]; exact huz
    · exact ge_lt (ge i (k - 1) y u (by omega) hi hu) huz
  · cases hi
theorem take_more {l : List B} {k : Nat} {x : B} (hx : l[k]? = some x) : l.take (k + 1) = l.take k ++ [x] := by
  rw [List.take_add_one, hx]; rfl
theorem bld_is {l O : List B} (hR : Rise O) (hO : ∀ x, x ∈ O ↔ x ∈ l) : O = bld l := rise_same hR (rise_bld l) (fun x => by rw [hO, mem_bld])
/-- Where a text stands, or would stand, by halves. -/
theorem pos_rise_lt {d : List B} (h : Rise d) {s : B} {i : Nat} {x : B} (hx : d[i]? = some x) : lt x s = decide (i < pos s d) := by
  by_cases hi : i < pos s d
  · obtain ⟨y, hy, hl⟩ := pos_below hi
    rw [hx] at hy
    simp at hy
    subst hy
    rw [hl]; simp [hi]
  · have hil := (List.getElem?_eq_some_iff.1 hx).1
    obtain ⟨z, hz⟩ : ∃ z, d[pos s d]? = some z := ⟨_, List.getElem?_eq_getElem (by omega)⟩
    have hzs := pos_at hz
    have : lt x s = false := by
      by_cases he : i = pos s d
      · subst he; rw [hz] at hx; simp at hx; rw [← hx]; exact hzs
      · exact lt_asymm (ge_lt hzs (rise_at h hz hx (by omega)))
    rw [this]; simp [hi]
theorem idx_pos {d : List B} (h : Rise d) (s : B) : idx s d = if d[pos s d]? = some s then some (pos s d) else none := by
  split
  · rename_i hp
    exact idx_at h hp
  · rename_i hp
    rw [idx_none]
    intro hm
    obtain ⟨i, hi⟩ := List.getElem?_of_mem hm
    rw [(pos_place h hi).1] at hp
    exact hp hi
end Go.Proofs.YtnmonoafjijfhaaGreat.T
