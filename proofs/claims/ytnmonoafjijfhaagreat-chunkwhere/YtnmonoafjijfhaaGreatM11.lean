/-
  Plain facts on numbers of few bits: packed one behind the other, and unpacked. No program here.
-/
namespace Go.Proofs.YtnmonoafjijfhaaGreat.B

/-- The number whose first n bits are f's. -/
def num (f : Nat → Bool) : Nat → Nat
  | 0 => 0
  | n + 1 => num f n + (if f n then 2 ^ n else 0)
theorem num_lt (f : Nat → Bool) : ∀ n, num f n < 2 ^ n
  | 0 => by simp [num]
  | n + 1 => by
    have ih := num_lt f n
    simp only [num, Nat.pow_succ]
    split <;> omega
theorem num_bit (f : Nat → Bool) : ∀ n i, (num f n).testBit i = (decide (i < n) && f i)
  | 0, i => by simp [num]
  | n + 1, i => by
    have ih := num_bit f n i
    have hl := num_lt f n
    simp only [num]
    by_cases hi : i < n
    · split
      · rw [Nat.add_comm, Nat.testBit_two_pow_add_gt hi, ih]; simp [hi]; omega
      · rw [Nat.add_zero, ih]; simp [hi]; omega
    · by_cases he : i = n
      · subst he
        cases hf : f i
        · simp [Nat.testBit_lt_two_pow hl]
        · rw [if_pos rfl, Nat.add_comm, Nat.testBit_two_pow_add_eq, Nat.testBit_lt_two_pow hl]; simp
      · have h1 : (num f n + if f n then 2 ^ n else 0) < 2 ^ i := by
          have : 2 ^ (n + 1) ≤ 2 ^ i := Nat.pow_le_pow_right (by decide) (by omega)
          rw [Nat.pow_succ] at this
          split <;> omega
        rw [Nat.testBit_lt_two_pow h1]
        simp; omega
theorem num_of {x n : Nat} (h : x < 2 ^ n) : num (fun i => x.testBit i) n = x := by
  apply Nat.eq_of_testBit_eq
  intro i
  rw [num_bit]
  by_cases hi : i < n
  · simp [hi]
  · have h2 : x < 2 ^ i := Nat.lt_of_lt_of_le h (Nat.pow_le_pow_right (by decide) (by omega))
    simp [hi, Nat.testBit_lt_two_pow h2]
theorem num_same {f g : Nat → Bool} {n : Nat} (h : ∀ i, i < n → f i = g i) : num f n = num g n := by
  apply Nat.eq_of_testBit_eq
  intro i
  rw [num_bit, num_bit]
  by_cases hi : i < n
  · rw [h i hi]
  · simp [hi]

/-- The bit at place p of bytes; of numbers of w bits. -/
def bit8 (b : List UInt8) (p : Nat) : Bool := (b.getD (p / 8) 0).toNat.testBit (p % 8)
def bitW (w : Nat) (l : List Nat) (p : Nat) : Bool := (l.getD (p / w) 0).testBit (p % w)
def size (n w : Nat) : Nat := (n * w + 7) / 8
def byteOf (f : Nat → Bool) (j : Nat) : UInt8 := UInt8.ofNat (num (fun t => f (8 * j + t)) 8)
/-- Bytes of which the bits are f's. -/
def bytesOf (f : Nat → Bool) (n : Nat) : List UInt8 := (List.range n).map (byteOf f)
theorem bytesOf_len (f : Nat → Bool) (n : Nat) : (bytesOf f n).length = n := by simp [bytesOf]
theorem bit8_of (f : Nat → Bool) (n p : Nat) : bit8 (bytesOf f n) p = (decide (p < 8 * n) && f p) := by
  unfold bit8 bytesOf
  simp only [List.getD_eq_getElem?_getD, List.getElem?_map]
  by_cases h : p < 8 * n
  · have hd : p / 8 < n := by omega
    have hlt := num_lt (fun t => f (8 * (p / 8) + t)) 8
    simp only [List.getElem?_range hd, Option.map_some, Option.getD_some, byteOf, UInt8.toNat_ofNat']
    rw [Nat.mod_eq_of_lt (by simpa using hlt), num_bit]
    have e : 8 * (p / 8) + p % 8 = p := by omega
    simp [h, e]; omega
  · have hd : n ≤ p / 8 := by omega
    rw [List.getElem?_eq_none (by simpa using hd)]
    simp [h]
theorem ext8 {a b : List UInt8} (hl : a.length = b.length) (h : ∀ p, p < 8 * a.length → bit8 a p = bit8 b p) : a = b := by
  apply List.ext_getElem hl
  intro i h1 h2
  apply UInt8.toNat_inj.1
  apply Nat.eq_of_testBit_eq
  intro t
  by_cases ht : t < 8
  · have := h (8 * i + t) (by omega)
    unfold bit8 at this
    rw [show (8 * i + t) / 8 = i from by omega, show (8 * i + t) % 8 = t from by omega] at this
    simpa [List.getD_eq_getElem?_getD, h1, h2] using this
  · have g : ∀ x : UInt8, x.toNat.testBit t = false := fun x =>
      Nat.testBit_lt_two_pow (Nat.lt_of_lt_of_le x.toNat_lt (Nat.pow_le_pow_right (by decide) (by omega)))
    rw [g, g]
/-- The packed numbers. -/
def pack (w : Nat) (l : List Nat) : List UInt8 := bytesOf (fun p => decide (p < l.length * w) && bitW w l p) (size l.length w)
theorem pack_len (w : Nat) (l : List Nat) : (pack w l).length = size l.length w := bytesOf_len _ _
theorem size_le (n w : Nat) : n * w ≤ 8 * size n w := by unfold size; omega
theorem size_lt (n w : Nat) : 8 * size n w < n * w + 8 := by unfold size; omega
theorem pack_bit (w : Nat) (l : List Nat) (p : Nat) : bit8 (pack w l) p = (decide (p < l.length * w) && bitW w l p) := by
  unfold pack
  rw [bit8_of]
  have := size_le l.length w
  by_cases h : p < l.length * w
  · simp [h]; omega
  · simp [h]
/-- The numbers that stand in bytes. -/
def unpack (w n : Nat) (b : List UInt8) : List Nat := (List.range n).map fun i => num (fun t => bit8 b (i * w + t)) w
theorem unpack_len (w n : Nat) (b : List UInt8) : (unpack w n b).length = n := by simp [unpack]
theorem place_lt {i n w t : Nat} (hi : i < n) (ht : t < w) : i * w + t < n * w := by
  have : (i + 1) * w ≤ n * w := Nat.mul_le_mul_right w hi
  rw [Nat.add_mul] at this; omega
theorem place_div {i w t : Nat} (ht : t < w) : (i * w + t) / w = i := by
  rw [Nat.add_comm, Nat.add_mul_div_right _ _ (by omega), Nat.div_eq_of_lt ht]; omega
theorem place_mod {i w t : Nat} (ht : t < w) : (i * w + t) % w = t := by
  rw [Nat.add_comm, Nat.add_mul_mod_self_right, Nat.mod_eq_of_lt ht]
theorem unpack_pack {w : Nat} {l : List Nat} (h : ∀ x ∈ l, x < 2 ^ w) : unpack w l.length (pack w l) = l := by
  apply List.ext_getElem
  · simp [unpack]
  · intro i h1 h2
    have hx : l[i] < 2 ^ w := h _ (List.getElem_mem h2)
    rw [← num_of hx]
    simp only [unpack, List.getElem_map, List.getElem_range]
    apply num_same
    intro t ht
    rw [pack_bit, bitW, place_div ht, place_mod ht]
    simp [place_lt h2 ht, h2]
/-- How many bits a number needs; how many the greatest needs. -/
def wid (x : Nat) : Nat := if x = 0 then 0 else x.log2 + 1
theorem wid_le (x w : Nat) : wid x ≤ w ↔ x < 2 ^ w := by
  unfold wid
  split
  · subst_vars; simp [Nat.two_pow_pos]
  · rename_i h
    rw [← Nat.log2_lt h]; omega
def width : List Nat → Nat
  | [] => 0
  | x :: r => max (wid x) (width r)
theorem width_le (w : Nat) : ∀ l : List Nat, width l ≤ w ↔ ∀ x ∈ l, x < 2 ^ w
  | [] => by simp [width]
  | x :: r => by
    have ih := width_le w r
    simp only [width, List.mem_cons, forall_eq_or_imp, Nat.max_le, wid_le, ih]
theorem width_append (l m : List Nat) : width (l ++ m) = max (width l) (width m) := by
  induction l with
  | nil => simp [width]
  | cons x r ih => simp only [List.cons_append, width, ih]; omega
theorem width64 {l : List Nat} (h : ∀ x ∈ l, x < 18446744073709551616) : width l ≤ 64 := (width_le 64 l).2 (by simpa using h)
theorem fits {l : List Nat} {w : Nat} (h : width l ≤ w) : ∀ x ∈ l, x < 2 ^ w := (width_le w l).1 h

/-- Pack's and Unpack's answers. -/
def pck (l : List Nat) (w : Int) : List UInt8 × Nat := if w < 0 ∨ 64 < w ∨ w.toNat < width l then ([], 15) else (pack w.toNat l, 0)
/-- Is a bit that is left set? -/
def left (w n : Nat) (b : List UInt8) : Bool := (List.range (8 * b.length)).any fun p => decide (n * w ≤ p) && bit8 b p
def unp (b : List UInt8) (n w : Int) : List Nat × Nat :=
  if w < 0 ∨ 64 < w then ([], 15) else if n < 0 ∨ 16777216 < n then ([], 1) else
  if b.length < size n.toNat w.toNat then ([], 10) else if size n.toNat w.toNat < b.length then ([], 11) else
  if left w.toNat n.toNat b then ([], 12) else (unpack w.toNat n.toNat b, 0)
def siz (n w : Int) : Nat := if n < 0 ∨ 16777216 < n ∨ w < 0 ∨ 64 < w then 0 else size n.toNat w.toNat
theorem left_false {w n : Nat} {b : List UInt8} : left w n b = false ↔ ∀ p, n * w ≤ p → p < 8 * b.length → bit8 b p = false := by
  unfold left
  rw [List.any_eq_false]
  constructor
  · intro h p h1 h2
    have := h p (by simpa using h2)
    simpa [h1] using this
  · intro h p hp
    have hp' : p < 8 * b.length := by simpa using hp
    by_cases h1 : n * w ≤ p
    · simp [h1, h p h1 hp']
    · simp [h1]
theorem left_true {w n : Nat} {b : List UInt8} {p : Nat} (h1 : n * w ≤ p) (h2 : p < 8 * b.length) (h : bit8 b p = true) : left w n b = true := by
  cases hl : left w n b
  · have := (left_false.1 hl) p h1 h2
    rw [h] at this; cases this
  · rfl
theorem pck_ok {l : List Nat} {w : Nat} (h1 : w ≤ 64) (h2 : width l ≤ w) : pck l w = (pack w l, 0) := by
  unfold pck
  rw [if_neg (by simp; omega), Int.toNat_natCast]
end Go.Proofs.YtnmonoafjijfhaaGreat.B
