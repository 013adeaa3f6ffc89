/-
  Plain facts on runs of numbers: written, read, there and back. No program here.
-/
import Derived.Test.YtnmonoafjijfhaaGreatM11
import Derived.Test.YtnmonoafjijfhaaGreatM03
namespace Go.Proofs.YtnmonoafjijfhaaGreat.R
open Go.Proofs.YtnmonoafjijfhaaGreat

/-- How many at the beginning are x. -/
def tw (x : Nat) : List Nat → Nat
  | [] => 0
  | y :: r => if y = x then 1 + tw x r else 0
theorem tw_le (x : Nat) : ∀ l, tw x l ≤ l.length
  | [] => by simp [tw]
  | y :: r => by have := tw_le x r; simp only [tw]; split <;> simp <;> omega
theorem tw_take (x : Nat) : ∀ l, l.take (tw x l) = List.replicate (tw x l) x
  | [] => by simp [tw]
  | y :: r => by
    simp only [tw]
    split
    · rename_i h
      rw [Nat.add_comm, List.take_succ_cons, List.replicate_succ, tw_take x r, h]
    · simp
/-- How many at the beginning are the same. -/
def runLen (l : List Nat) : Nat := tw (l.headD 0) l
theorem runLen_le (l : List Nat) : runLen l ≤ l.length := tw_le _ _
theorem runLen_take (l : List Nat) : l.take (runLen l) = List.replicate (runLen l) (l.headD 0) := tw_take _ _
def moreF : Nat → List Nat → Nat
  | 0, _ => 0
  | f + 1, l => if l = [] ∨ 8 ≤ runLen l then 0 else 1 + moreF f (l.drop 8)
def more (l : List Nat) : Nat := moreF l.length l
theorem moreF_eq : ∀ (f g : Nat) (l : List Nat), l.length ≤ f → l.length ≤ g → moreF f l = moreF g l
  | 0, 0, l, _, _ => rfl
  | 0, g + 1, l, h, _ => by have : l = [] := List.length_eq_zero_iff.1 (by omega); simp [moreF, this]
  | f + 1, 0, l, _, h => by have : l = [] := List.length_eq_zero_iff.1 (by omega); simp [moreF, this]
  | f + 1, g + 1, l, h1, h2 => by
    simp only [moreF]
    split
    · rfl
    · rename_i h
      have : l ≠ [] := fun e => h (.inl e)
      have hp : 0 < l.length := List.length_pos_iff.2 this
      rw [moreF_eq f g (l.drop 8) (by simp; omega) (by simp; omega)]
theorem more_eq (l : List Nat) : more l = if l = [] ∨ 8 ≤ runLen l then 0 else 1 + more (l.drop 8) := by
  unfold more
  cases l with
  | nil => rfl
  | cons x r =>
    rw [List.length_cons, moreF]
    split
    · rfl
    · rw [moreF_eq _ ((x :: r).drop 8).length _ (by simp) (Nat.le_refl _)]
theorem moreF_le : ∀ (f : Nat) (l : List Nat), moreF f l ≤ (l.length + 7) / 8
  | 0, l => by simp [moreF]
  | f + 1, l => by
    simp only [moreF]
    split
    · omega
    · rename_i h
      have : l ≠ [] := fun e => h (.inl e)
      have hp : 0 < l.length := List.length_pos_iff.2 this
      have := moreF_le f (l.drop 8)
      simp at this
      omega
/-- How many groups stand at the beginning. -/
def groups (l : List Nat) : Nat := if l = [] then 0 else 1 + more (l.drop 8)
theorem groups_le (l : List Nat) : groups l ≤ (l.length + 7) / 8 := by
  unfold groups
  split
  · omega
  · rename_i h
    have hp : 0 < l.length := List.length_pos_iff.2 h
    have := moreF_le (l.drop 8).length (l.drop 8)
    unfold more
    simp at this ⊢
    omega
theorem groups_pos {l : List Nat} (h : l ≠ []) : 1 ≤ groups l := by unfold groups; rw [if_neg h]; omega
/-- A number in as few bytes as a width needs. -/
def few (w x : Nat) : List UInt8 := (List.range ((w + 7) / 8)).map fun i => UInt8.ofNat (x / 2 ^ (8 * i))
def pad (n : Nat) (l : List Nat) : List Nat := l ++ List.replicate (n - l.length) 0
def encF : Nat → Nat → List Nat → List UInt8
  | 0, _, _ => []
  | f + 1, w, l => if l = [] then [] else if 8 ≤ runLen l then M.digs (2 * runLen l) ++ (few w (l.headD 0) ++ encF f w (l.drop (runLen l))) else
      M.digs (2 * groups l + 1) ++ (B.pack w (pad (8 * groups l) (l.take (8 * groups l))) ++ encF f w (l.drop (8 * groups l)))
/-- The bytes of a list. -/
def enc (w : Nat) (l : List Nat) : List UInt8 := encF l.length w l
theorem encF_eq (w : Nat) : ∀ (f g : Nat) (l : List Nat), l.length ≤ f → l.length ≤ g → encF f w l = encF g w l
  | 0, 0, l, _, _ => rfl
  | 0, g + 1, l, h, _ => by have : l = [] := List.length_eq_zero_iff.1 (by omega); simp [encF, this]
  | f + 1, 0, l, _, h => by have : l = [] := List.length_eq_zero_iff.1 (by omega); simp [encF, this]
  | f + 1, g + 1, l, h1, h2 => by
    simp only [encF]
    split
    · rfl
    · rename_i h
      have hp : 0 < l.length := List.length_pos_iff.2 h
      have hg := groups_pos h
      split
      · rw [encF_eq w f g (l.drop (runLen l)) (by simp; omega) (by simp; omega)]
      · rw [encF_eq w f g (l.drop (8 * groups l)) (by simp; omega) (by simp; omega)]
theorem enc_nil (w : Nat) : enc w [] = [] := rfl
theorem enc_eq (w : Nat) {l : List Nat} (h : l ≠ []) : enc w l = if 8 ≤ runLen l then M.digs (2 * runLen l) ++ (few w (l.headD 0) ++ enc w (l.drop (runLen l))) else
      M.digs (2 * groups l + 1) ++ (B.pack w (pad (8 * groups l) (l.take (8 * groups l))) ++ enc w (l.drop (8 * groups l))) := by
  unfold enc
  cases l with
  | nil => exact absurd rfl h
  | cons x r =>
    have hg := groups_pos h
    rw [List.length_cons, encF, if_neg h]
    split
    · rw [encF_eq w _ ((x :: r).drop (runLen (x :: r))).length _ (by simp; omega) (Nat.le_refl _)]
    · rw [encF_eq w _ ((x :: r).drop (8 * groups (x :: r))).length _ (by simp; omega) (Nat.le_refl _)]
def encE (l : List Nat) (w : Int) : List UInt8 × Nat := if w < 0 ∨ 32 < w ∨ w.toNat < B.width l then ([], 15) else (enc w.toNat l, 0)

/-- Bytes, the lowest first, as a number. -/
def le : List UInt8 → Nat
  | [] => 0
  | b :: r => b.toNat + 256 * le r
theorem le_lt : ∀ l, le l < 256 ^ l.length
  | [] => by simp [le]
  | b :: r => by
    have := le_lt r
    have hb := b.toNat_lt
    simp only [le, List.length_cons, Nat.pow_succ]
    omega
theorem le_append : ∀ a b, le (a ++ b) = le a + 256 ^ a.length * le b
  | [], b => by simp [le]
  | x :: a, b => by
    simp only [List.cons_append, le, le_append a b, List.length_cons, Nat.pow_succ]
    rw [Nat.mul_add, Nat.mul_comm (256 ^ a.length) 256, Nat.mul_assoc]
    omega
theorem le_range (x : Nat) : ∀ n, le ((List.range n).map fun i => UInt8.ofNat (x / 2 ^ (8 * i))) = x % 256 ^ n
  | 0 => by simp [le, Nat.mod_one]
  | n + 1 => by
    rw [List.range_succ, List.map_append, le_append, le_range x n]
    have e : (2 : Nat) ^ (8 * n) = 256 ^ n := by rw [Nat.pow_mul]
    simp only [List.map_cons, List.map_nil, le, List.length_map, List.length_range, UInt8.toNat_ofNat', e, Nat.mul_zero, Nat.add_zero]
    rw [show 256 ^ (n + 1) = 256 ^ n * 256 from Nat.pow_succ .., Nat.mod_mul]
theorem few_len (w x : Nat) : (few w x).length = (w + 7) / 8 := by simp [few]
theorem le_few {w x : Nat} (h : x < 2 ^ w) : le (few w x) = x := by
  unfold few
  rw [le_range]
  apply Nat.mod_eq_of_lt
  have e : (256 : Nat) ^ ((w + 7) / 8) = 2 ^ (8 * ((w + 7) / 8)) := by rw [Nat.pow_mul]
  rw [e]
  exact Nat.lt_of_lt_of_le h (Nat.pow_le_pow_right (by decide) (by omega))

/-- What stands at a place, if 'left' numbers are left: the numbers, where they end, and why not. -/
def item (w : Nat) (b : List UInt8) (k left : Nat) : List Nat × Nat × Nat :=
  if (M.get b k).2.2 ≠ 0 then ([], 0, (M.get b k).2.2) else
  if (M.get b k).1 % 2 = 0 then
    if b.length - (M.get b k).2.1 < (w + 7) / 8 then ([], 0, 10) else
    if (M.get b k).1 / 2 = 0 ∨ left < (M.get b k).1 / 2 then ([], 0, 12) else
    (List.replicate ((M.get b k).1 / 2) (le ((b.drop (M.get b k).2.1).take ((w + 7) / 8))), (M.get b k).2.1 + (w + 7) / 8, 0)
  else
    if 0 < w ∧ (b.length - (M.get b k).2.1) / w < (M.get b k).1 / 2 then ([], 0, 10) else
    if (M.get b k).1 / 2 = 0 ∨ (left + 7) / 8 < (M.get b k).1 / 2 then ([], 0, 12) else
    if ((B.unpack w (8 * ((M.get b k).1 / 2)) ((b.drop (M.get b k).2.1).take ((M.get b k).1 / 2 * w))).drop left).any (fun x => x != 0) then ([], 0, 12) else
    ((B.unpack w (8 * ((M.get b k).1 / 2)) ((b.drop (M.get b k).2.1).take ((M.get b k).1 / 2 * w))).take left, (M.get b k).2.1 + (M.get b k).1 / 2 * w, 0)
def readF : Nat → Nat → Nat → List UInt8 → List Nat → Nat → List Nat × Nat × Nat
  | 0, _, _, _, out, k => (out, k, 0)
  | f + 1, n, w, b, out, k => if n ≤ out.length then (out, k, 0) else
      if (item w b k (n - out.length)).2.2 ≠ 0 then ([], 0, (item w b k (n - out.length)).2.2) else
      readF f n w b (out ++ (item w b k (n - out.length)).1) (item w b k (n - out.length)).2.1
theorem getR_fwd {r : List UInt8} (h : (M.getR r).2.2 = 0) : 1 ≤ (M.getR r).2.1 := by
  unfold M.getR at h ⊢
  split
  · rename_i h1; rw [if_pos h1] at h; simp at h
  · rename_i h1
    rw [if_neg h1] at h
    split
    · simp
    · rename_i h2; rw [if_neg h2] at h; simp at h
theorem get_fwd {b : List UInt8} {k : Nat} (hk : k ≤ b.length) (h : (M.get b k).2.2 = 0) : k + 1 ≤ (M.get b k).2.1 ∧ (M.get b k).2.1 ≤ b.length := by
  refine ⟨?_, (M.get_all b k).2.1⟩
  unfold M.get at h ⊢
  rw [if_neg (by omega)] at h ⊢
  by_cases h1 : (M.getR (b.drop (k : Int).toNat)).2.2 = 0
  · rw [if_pos h1]
    have := getR_fwd h1
    simp at this ⊢
    omega
  · rw [if_neg h1] at h; exact absurd h h1
theorem item_ok {w : Nat} {b : List UInt8} {k left : Nat} (hk : k ≤ b.length) (hl : 0 < left) (h : (item w b k left).2.2 = 0) : 1 ≤ (item w b k left).1.length ∧ (item w b k left).1.length ≤ left ∧ k ≤ (item w b k left).2.1 ∧ (item w b k left).2.1 ≤ b.length := by
  unfold item at h ⊢
  split at h
  · rename_i h0; exact absurd h h0
  · rename_i h0
    have h0 := Decidable.not_not.1 h0
    rw [if_neg (by simp [h0])]
    obtain ⟨hf1, hf2⟩ := get_fwd hk h0
    generalize M.get b k = r at *
    obtain ⟨v, m, e⟩ := r
    simp only at *
    split at h
    · rename_i h1
      rw [if_pos h1]
      split at h
      · simp at h
      · rename_i h2
        rw [if_neg h2]
        split at h
        · simp at h
        · rename_i h3
          rw [if_neg h3]
          simp
          omega
    · rename_i h1
      rw [if_neg h1]
      split at h
      · simp at h
      · rename_i h2
        rw [if_neg h2]
        split at h
        · simp at h
        · rename_i h3
          rw [if_neg h3]
          split at h
          · simp at h
          · rename_i h4
            rw [if_neg h4]
            have hcw : v / 2 * w ≤ b.length - m := by
              by_cases hw : 0 < w
              · have h5 : ¬ (b.length - m) / w < v / 2 := fun h6 => h2 ⟨hw, h6⟩
                have h7 : v / 2 ≤ (b.length - m) / w := by omega
                exact (Nat.le_div_iff_mul_le hw).1 h7
              · have : w = 0 := by omega
                rw [this]; omega
            simp [B.unpack_len]
            omega
theorem readF_end {n w : Nat} {b : List UInt8} {out : List Nat} (k : Nat) (h : n ≤ out.length) : ∀ f, readF f n w b out k = (out, k, 0)
  | 0 => rfl
  | f + 1 => by rw [readF, if_pos h]
theorem readF_eq {n w : Nat} {b : List UInt8} : ∀ (f g : Nat) (out : List Nat) (k : Nat), k ≤ b.length → n - out.length ≤ f → n - out.length ≤ g → readF f n w b out k = readF g n w b out k
  | 0, g, out, k, _, h1, _ => by rw [readF_end k (by omega), readF_end k (by omega)]
  | f + 1, 0, out, k, _, _, h2 => by rw [readF_end k (by omega), readF_end k (by omega)]
  | f + 1, g + 1, out, k, hk, h1, h2 => by
    by_cases h : n ≤ out.length
    · rw [readF_end k h, readF_end k h]
    · rw [readF, readF, if_neg h, if_neg h]
      split
      · rfl
      · rename_i he
        have he := Decidable.not_not.1 he
        have hi := item_ok hk (by omega) he
        exact readF_eq f g _ _ hi.2.2.2 (by rw [List.length_append]; omega) (by rw [List.length_append]; omega)
/-- All that stands from a place on. -/
def read (n w : Nat) (b : List UInt8) (out : List Nat) (k : Nat) : List Nat × Nat × Nat := readF (n - out.length) n w b out k
theorem read_end {n w : Nat} {b : List UInt8} {out : List Nat} {k : Nat} (h : n ≤ out.length) : read n w b out k = (out, k, 0) := readF_end k h _
theorem read_bad {n w : Nat} {b : List UInt8} {out : List Nat} {k : Nat} (h : out.length < n) (e : (item w b k (n - out.length)).2.2 ≠ 0) : read n w b out k = ([], 0, (item w b k (n - out.length)).2.2) := by
  unfold read
  obtain ⟨f, hf⟩ : ∃ f, n - out.length = f + 1 := ⟨n - out.length - 1, by omega⟩
  rw [hf, readF, if_neg (by omega), ← hf, if_pos e]
theorem read_step {n w : Nat} {b : List UInt8} {out : List Nat} {k : Nat} (hk : k ≤ b.length) (h : out.length < n) {x : List Nat} {k' : Nat} (e : item w b k (n - out.length) = (x, k', 0)) : read n w b out k = read n w b (out ++ x) k' := by
  have hi := item_ok (w := w) (b := b) (left := n - out.length) hk (by omega) (by rw [e])
  rw [e] at hi
  simp only at hi
  unfold read
  obtain ⟨f, hf⟩ : ∃ f, n - out.length = f + 1 := ⟨n - out.length - 1, by omega⟩
  rw [hf, readF, if_neg (by omega), e, if_neg (by simp)]
  simp only
  exact readF_eq _ _ _ _ hi.2.2.2 (by rw [List.length_append]; omega) (by rw [List.length_append]; omega)
theorem readF_ok {n w : Nat} {b : List UInt8} : ∀ (f : Nat) (out : List Nat) (k : Nat), k ≤ b.length → n - out.length ≤ f → out.length ≤ n → (readF f n w b out k).2.2 = 0 →
    (readF f n w b out k).1.length = n ∧ k ≤ (readF f n w b out k).2.1 ∧ (readF f n w b out k).2.1 ≤ b.length
  | 0, out, k, hk, h1, h2, _ => by rw [readF]; simp; omega
  | f + 1, out, k, hk, h1, h2, h3 => by
    rw [readF] at h3 ⊢
    by_cases h : n ≤ out.length
    · rw [if_pos h]; simp; omega
    · rw [if_neg h] at h3 ⊢
      by_cases he : (item w b k (n - out.length)).2.2 ≠ 0
      · rw [if_pos he] at h3; exact absurd h3 he
      · rw [if_neg he] at h3 ⊢
        have he := Decidable.not_not.1 he
        have hi := item_ok hk (by omega) he
        have := readF_ok f _ _ hi.2.2.2 (by rw [List.length_append]; omega) (by rw [List.length_append]; omega) h3
        omega
theorem read_ok {n w : Nat} {b : List UInt8} {out : List Nat} {k : Nat} (hk : k ≤ b.length) (h2 : out.length ≤ n) (h : (read n w b out k).2.2 = 0) :
    (read n w b out k).1.length = n ∧ k ≤ (read n w b out k).2.1 ∧ (read n w b out k).2.1 ≤ b.length := readF_ok _ _ _ hk (Nat.le_refl _) h2 h

/-- A run is read. -/
theorem item_run {w : Nat} {pre suf : List UInt8} {r x left : Nat} (hr : 1 ≤ r) (hr2 : r ≤ left) (hr3 : 2 * r < 18446744073709551616) (hx : x < 2 ^ w) :
    item w (pre ++ (M.digs (2 * r) ++ (few w x ++ suf))) pre.length left = (List.replicate r x, pre.length + (M.digs (2 * r) ++ few w x).length, 0) := by
  have hg := M.get_digs hr3 pre (few w x ++ suf)
  rw [List.append_assoc] at hg
  unfold item
  rw [hg]
  simp only
  rw [if_neg (by simp), if_pos (by omega), if_neg (by simp [few_len]; omega), if_neg (by omega)]
  have e1 : 2 * r / 2 = r := by omega
  have e2 : ((pre ++ (M.digs (2 * r) ++ (few w x ++ suf))).drop (pre.length + (M.digs (2 * r)).length)).take ((w + 7) / 8) = few w x := by
    rw [← List.append_assoc, List.drop_left' (by simp), List.take_left' (few_len w x)]
  rw [e1, e2, le_few hx]
  simp [few_len]; omega
/-- Groups are read. -/
theorem item_groups {w : Nat} {pre suf : List UInt8} {g left : Nat} {y : List Nat} (hg1 : 1 ≤ g) (hg2 : g ≤ (left + 7) / 8) (hg3 : 2 * g + 1 < 18446744073709551616) (hy : y.length = 8 * g) (hyw : ∀ x ∈ y, x < 2 ^ w) (h0 : ∀ x ∈ y.drop left, x = 0) :
    item w (pre ++ (M.digs (2 * g + 1) ++ (B.pack w y ++ suf))) pre.length left = (y.take left, pre.length + (M.digs (2 * g + 1) ++ B.pack w y).length, 0) := by
  have hg := M.get_digs hg3 pre (B.pack w y ++ suf)
  rw [List.append_assoc] at hg
  have hpl : (B.pack w y).length = g * w := by
    rw [B.pack_len, hy]
    unfold B.size
    have : 8 * g * w = 8 * (g * w) := by rw [Nat.mul_assoc]
    rw [this]; omega
  unfold item
  rw [hg]
  simp only
  have e1 : (2 * g + 1) / 2 = g := by omega
  have hlen : (pre ++ (M.digs (2 * g + 1) ++ (B.pack w y ++ suf))).length - (pre.length + (M.digs (2 * g + 1)).length) = g * w + suf.length := by simp [hpl]; omega
  have e2 : ((pre ++ (M.digs (2 * g + 1) ++ (B.pack w y ++ suf))).drop (pre.length + (M.digs (2 * g + 1)).length)).take (g * w) = B.pack w y := by
    rw [← List.append_assoc, List.drop_left' (by simp), List.take_left' hpl]
  have e3 : B.unpack w (8 * g) (B.pack w y) = y := by rw [← hy]; exact B.unpack_pack hyw
  rw [if_neg (by simp), if_neg (by omega), e1, hlen, e2, e3, if_neg, if_neg (by omega), if_neg]
  · simp [hpl]; omega
  · simp only [List.any_eq_true, bne_iff_ne, ne_eq]
    rintro ⟨x, hx, hne⟩
    exact hne (h0 x hx)
  · rintro ⟨hw, hlt⟩
    have : g ≤ (g * w + suf.length) / w := (Nat.le_div_iff_mul_le hw).2 (by omega)
    omega
theorem pad_len {n : Nat} {l : List Nat} (h : l.length ≤ n) : (pad n l).length = n := by simp [pad]; omega
theorem pad_mem {n : Nat} {l : List Nat} {x : Nat} (h : x ∈ pad n l) : x ∈ l ∨ x = 0 := by
  unfold pad at h
  rcases List.mem_append.1 h with h | h
  · exact .inl h
  · exact .inr (List.eq_of_mem_replicate h)
theorem pad_take (g : Nat) (l : List Nat) : (pad (8 * g) (l.take (8 * g))).take l.length = l.take (8 * g) := by
  unfold pad
  by_cases h : 8 * g ≤ l.length
  · have e : 8 * g - (l.take (8 * g)).length = 0 := by simp; omega
    rw [e]
    simp [List.take_take]
    omega
  · have e : l.take (8 * g) = l := List.take_of_length_le (by omega)
    rw [e, List.take_left' rfl]
theorem pad_rest (g : Nat) (l : List Nat) : ∀ x ∈ (pad (8 * g) (l.take (8 * g))).drop l.length, x = 0 := by
  intro x hx
  unfold pad at hx
  by_cases h : 8 * g ≤ l.length
  · rw [List.drop_of_length_le (by simp; omega)] at hx
    cases hx
  · have e : l.take (8 * g) = l := List.take_of_length_le (by omega)
    rw [e, List.drop_left' rfl] at hx
    exact List.eq_of_mem_replicate hx
/-- **WHAT IS WRITTEN IS READ.** -/
theorem read_enc {w : Nat} : ∀ (m : Nat) (l : List Nat), l.length ≤ m → (∀ x ∈ l, x < 2 ^ w) → l.length ≤ 1099511627776 → ∀ (out : List Nat) (pre suf : List UInt8) (n : Nat), n = out.length + l.length →
    read n w (pre ++ (enc w l ++ suf)) out pre.length = (out ++ l, pre.length + (enc w l).length, 0)
  | 0, l, hm, hw, hb, out, pre, suf, n, hn => by
    obtain rfl : l = [] := List.length_eq_zero_iff.1 (by omega)
    simp at hn
    rw [read_end (by omega)]
    simp [enc_nil]
  | m + 1, l, hm, hw, hb, out, pre, suf, n, hn => by
    by_cases hl : l = []
    · subst hl
      simp at hn
      rw [read_end (by omega)]
      simp [enc_nil]
    · have hp : 0 < l.length := List.length_pos_iff.2 hl
      have hleft : n - out.length = l.length := by omega
      by_cases h8 : 8 ≤ runLen l
      · have hrl := runLen_le l
        have he := enc_eq w hl
        rw [if_pos h8] at he
        have hx : l.headD 0 < 2 ^ w := by
          cases l with
          | nil => exact absurd rfl hl
          | cons x r => exact hw x (by simp)
        have hsplit : l = List.replicate (runLen l) (l.headD 0) ++ l.drop (runLen l) := by
          rw [← runLen_take, List.take_append_drop]
        have hi := item_run (w := w) (pre := pre) (suf := enc w (l.drop (runLen l)) ++ suf) (r := runLen l) (x := l.headD 0) (left := n - out.length) (by omega) (by omega) (by omega) hx
        have hbytes : pre ++ (enc w l ++ suf) = pre ++ (M.digs (2 * runLen l) ++ (few w (l.headD 0) ++ (enc w (l.drop (runLen l)) ++ suf))) := by rw [he]; simp
        rw [hbytes, read_step (by simp) (by omega) hi]
        have hb2 : pre ++ (M.digs (2 * runLen l) ++ (few w (l.headD 0) ++ (enc w (l.drop (runLen l)) ++ suf))) = (pre ++ (M.digs (2 * runLen l) ++ few w (l.headD 0))) ++ (enc w (l.drop (runLen l)) ++ suf) := by simp
        have hk2 : pre.length + (M.digs (2 * runLen l) ++ few w (l.headD 0)).length = (pre ++ (M.digs (2 * runLen l) ++ few w (l.headD 0))).length := by simp
        rw [hb2, hk2, read_enc m (l.drop (runLen l)) (by simp; omega) (fun x hx => hw x (List.mem_of_mem_drop hx)) (by simp; omega) _ _ suf n (by simp; omega)]
        rw [List.append_assoc, ← hsplit, he]
        simp; omega
      · have hgp := groups_pos hl
        have hgl := groups_le l
        have he := enc_eq w hl
        rw [if_neg h8] at he
        have hpl : (pad (8 * groups l) (l.take (8 * groups l))).length = 8 * groups l := pad_len (by simp; omega)
        have hi := item_groups (w := w) (pre := pre) (suf := enc w (l.drop (8 * groups l)) ++ suf) (g := groups l) (left := n - out.length) (y := pad (8 * groups l) (l.take (8 * groups l))) hgp (by omega) (by omega) hpl
          (fun x hx => by
            rcases pad_mem hx with h | h
            · exact hw x (List.mem_of_mem_take h)
            · rw [h]; exact Nat.two_pow_pos w)
          (by rw [hleft]; exact pad_rest _ l)
        rw [hleft, pad_take] at hi
        have hbytes : pre ++ (enc w l ++ suf) = pre ++ (M.digs (2 * groups l + 1) ++ (B.pack w (pad (8 * groups l) (l.take (8 * groups l))) ++ (enc w (l.drop (8 * groups l)) ++ suf))) := by rw [he]; simp
        rw [hbytes, read_step (by simp) (by omega) (by rw [hleft]; exact hi)]
        generalize hP : B.pack w (pad (8 * groups l) (l.take (8 * groups l))) = PP at *
        have hb2 : pre ++ (M.digs (2 * groups l + 1) ++ (PP ++ (enc w (l.drop (8 * groups l)) ++ suf))) = (pre ++ (M.digs (2 * groups l + 1) ++ PP)) ++ (enc w (l.drop (8 * groups l)) ++ suf) := by simp
        have hk2 : pre.length + (M.digs (2 * groups l + 1) ++ PP).length = (pre ++ (M.digs (2 * groups l + 1) ++ PP)).length := by simp
        rw [hb2, hk2, read_enc m (l.drop (8 * groups l)) (by simp; omega) (fun x hx => hw x (List.mem_of_mem_drop hx)) (by simp; omega) _ _ suf n (by simp; omega)]
        rw [List.append_assoc, List.take_append_drop, he]
        simp; omega
/-- What Decode answers. -/
def dec (b : List UInt8) (at' n w : Int) : List Nat × Nat × Nat :=
  if w < 0 ∨ 32 < w then ([], 0, 15) else if n < 0 ∨ 1048576 < n ∨ at' < 0 ∨ (b.length : Int) < at' then ([], 0, 1) else
  if (read n.toNat w.toNat b [] at'.toNat).2.2 ≠ 0 then ([], 0, (read n.toNat w.toNat b [] at'.toNat).2.2) else
  if B.width (read n.toNat w.toNat b [] at'.toNat).1 ≤ w.toNat ∧ enc w.toNat (read n.toNat w.toNat b [] at'.toNat).1 = (b.drop at'.toNat).take ((read n.toNat w.toNat b [] at'.toNat).2.1 - at'.toNat) then read n.toNat w.toNat b [] at'.toNat else ([], 0, 12)
theorem dec_enc {l : List Nat} {w : Nat} (hw : w ≤ 32) (hl : B.width l ≤ w) (hn : l.length ≤ 1048576) (pre suf : List UInt8) : dec (pre ++ (enc w l ++ suf)) pre.length l.length w = (l, pre.length + (enc w l).length, 0) := by
  have h := read_enc (w := w) l.length l (Nat.le_refl _) (B.fits hl) (by omega) [] pre suf l.length (by simp)
  unfold dec
  rw [if_neg (by omega), if_neg (by simp; omega)]
  simp only [Int.toNat_natCast]
  rw [h]
  simp only [List.nil_append, ne_eq, not_true_eq_false, if_false]
  rw [if_pos]
  refine ⟨hl, ?_⟩
  rw [List.drop_left' rfl, Nat.add_sub_cancel_left, List.take_left' rfl]
/-- Bytes that are read are those that are written for what they are. -/
theorem dec_ok {b : List UInt8} {at' n w : Int} {z : List Nat} {k : Nat} (h : dec b at' n w = (z, k, 0)) :
    0 ≤ w ∧ w ≤ 32 ∧ 0 ≤ n ∧ n ≤ 1048576 ∧ 0 ≤ at' ∧ at' ≤ b.length ∧ z.length = n.toNat ∧ at'.toNat ≤ k ∧ k ≤ b.length ∧ B.width z ≤ w.toNat ∧ enc w.toNat z = (b.drop at'.toNat).take (k - at'.toNat) := by
  unfold dec at h
  split at h
  · simp at h
  · rename_i h1
    split at h
    · simp at h
    · rename_i h2
      have hrd := read_ok (n := n.toNat) (w := w.toNat) (b := b) (out := []) (k := at'.toNat) (by omega) (by simp)
      generalize read n.toNat w.toNat b [] at'.toNat = r at h hrd
      obtain ⟨o, k2, e⟩ := r
      simp only at h hrd
      split at h
      · rename_i h3; simp only [Prod.mk.injEq] at h; exact absurd h.2.2 h3
      · rename_i h3
        split at h
        · rename_i h4
          simp only [Prod.mk.injEq] at h
          obtain ⟨rfl, rfl, rfl⟩ := h
          have := hrd rfl
          exact ⟨by omega, by omega, by omega, by omega, by omega, by omega, this.1, this.2.1, this.2.2, h4.1, h4.2⟩
        · simp at h
theorem dec_bad {b : List UInt8} {at' n w : Int} {z : List Nat} {k e : Nat} (h : dec b at' n w = (z, k, e)) (he : e ≠ 0) : z = [] ∧ k = 0 := by
  unfold dec at h
  split at h
  · simp only [Prod.mk.injEq] at h; exact ⟨h.1.symm, h.2.1.symm⟩
  · split at h
    · simp only [Prod.mk.injEq] at h; exact ⟨h.1.symm, h.2.1.symm⟩
    · split at h
      · simp only [Prod.mk.injEq] at h; exact ⟨h.1.symm, h.2.1.symm⟩
      · rename_i h3
        have h3 := Decidable.not_not.1 h3
        split at h
        · rw [h] at h3; exact absurd h3 he
        · simp only [Prod.mk.injEq] at h; exact ⟨h.1.symm, h.2.1.symm⟩
end Go.Proofs.YtnmonoafjijfhaaGreat.R
