/-
  Ytibnhjfeepdddaa facts on sums of bytes: the CRC-32C bit by bit is linear, loses nothing, and tells bytes of which four that stand together are turned; FNV-1a grows byte by byte. No program here. Ytibnhjfeepdddaa facts on filters of texts: which bits are set, how many bits there are. No program here.
-/
import Derived.Test.YtibnhjfeepdddaaM02
namespace Go.Proofs.Ytibnhjfeepdddaa.S

def poly : Nat := 0x82f63b78
/-- One bit. -/
def step (c : Nat) : Nat := if c % 2 = 1 then (c / 2) ^^^ poly else c / 2
def steps : Nat → Nat → Nat
 | 0, c => c
 | n + 1, c => steps n (step c)
/-- One byte. -/
def byte (c b : Nat) : Nat := steps 8 (c ^^^ b)
def run (c : Nat) (l : List UInt8) : Nat := l.foldl (fun c b => byte c b.toNat) c
theorem run_nil (c : Nat) : run c [] = c := by simp only [run, List.foldl_nil]
theorem run_cons (c : Nat) (b : UInt8) (r : List UInt8) : run c (b :: r) = run (byte c b.toNat) r := by simp only [run, List.foldl_cons]
theorem xor_half (a b : Nat) : (a ^^^ b) / 2 = a / 2 ^^^ b / 2 := by
 have := Nat.shiftRight_xor_distrib (a := a) (b := b) (i := 1)
 simpa [Nat.shiftRight_succ] using this
theorem xor_odd (a b : Nat) : (a ^^^ b) % 2 = a % 2 ^^^ b % 2 := by
 have := Nat.xor_mod_two_pow (a := a) (b := b) (n := 1)
 simpa using this
theorem step_xor (a b : Nat) : step (a ^^^ b) = step a ^^^ step b := by
 unfold step
 rw [xor_odd, xor_half]
 have ha : a % 2 = 0 ∨ a % 2 = 1 := by omega
 have hb : b % 2 = 0 ∨ b % 2 = 1 := by omega
 rcases ha with ha | ha <;> rcases hb with hb | hb <;> simp [ha, hb]
 ·rw [Nat.xor_assoc]
 ·rw [Nat.xor_assoc, Nat.xor_comm (b / 2), ← Nat.xor_assoc]
 ·rw [Nat.xor_assoc, ← Nat.xor_assoc poly, Nat.xor_comm poly (b / 2), Nat.xor_assoc (b / 2), Nat.xor_self, Nat.xor_zero]
theorem steps_xor : ∀ (n a b : Nat), steps n (a ^^^ b) = steps n a ^^^ steps n b
 | 0, _, _ => rfl
 | n + 1, a, b => by simp only [steps]; rw [step_xor, steps_xor n]
theorem steps_add : ∀ (n m c : Nat), steps (n + m) c = steps m (steps n c)
 | 0, m, c => by simp [steps]
 | n + 1, m, c => by rw [show n + 1 + m = (n + m) + 1 from by omega]; simp only [steps]; exact steps_add n m _
theorem steps_even : ∀ (n b : Nat), steps n (b * 2 ^ n) = b
 | 0, b => by simp [steps]
 | n + 1, b => by
  have e : step (b * 2 ^ (n + 1)) = b * 2 ^ n := by
   rw [Nat.pow_succ, ← Nat.mul_assoc]
   unfold step
   rw [if_neg (by omega)]
   omega
  simp only [steps, e]
  exact steps_even n b

def noughts (n : Nat) : List UInt8 := List.replicate n 0
theorem four (w x y z : UInt8) : run 0 [w, x, y, z] = steps 32 (w.toNat ^^^ x.toNat * 2 ^ 8 ^^^ y.toNat * 2 ^ 16 ^^^ z.toNat * 2 ^ 24) := by
 rw [run_cons, run_cons, run_cons, run_cons, run_nil]
 simp only [byte, Nat.zero_xor]
 have h1 : steps 8 w.toNat ^^^ x.toNat = steps 8 (w.toNat ^^^ x.toNat * 2 ^ 8) := by rw [steps_xor, steps_even]
 rw [h1, ← steps_add]
 have h2 : steps (8 + 8) (w.toNat ^^^ x.toNat * 2 ^ 8) ^^^ y.toNat = steps (8 + 8) (w.toNat ^^^ x.toNat * 2 ^ 8 ^^^ y.toNat * 2 ^ 16) := by rw [steps_xor 16 (w.toNat ^^^ x.toNat * 2 ^ 8), steps_even 16]
 rw [h2, ← steps_add]
 have h3 : steps (8 + 8 + 8) (w.toNat ^^^ x.toNat * 2 ^ 8 ^^^ y.toNat * 2 ^ 16) ^^^ z.toNat = steps (8 + 8 + 8) (w.toNat ^^^ x.toNat * 2 ^ 8 ^^^ y.toNat * 2 ^ 16 ^^^ z.toNat * 2 ^ 24) := by rw [steps_xor 24 (w.toNat ^^^ x.toNat * 2 ^ 8 ^^^ y.toNat * 2 ^ 16), steps_even 24]
 rw [h3, ← steps_add]
/-- FNV-1a. -/
def fnvStep (h : Nat) (b : UInt8) : Nat := (h ^^^ b.toNat) * 0x100000001b3 % 18446744073709551616
def fnv (l : List UInt8) : Nat := l.foldl fnvStep 0xcbf29ce484222325
theorem fnv_snoc (l : List UInt8) (b : UInt8) : fnv (l ++ [b]) = fnvStep (fnv l) b := by
 unfold fnv
 rw [List.foldl_append, List.foldl_cons, List.foldl_nil]
theorem fnvStep_lt (h : Nat) (b : UInt8) : fnvStep h b < 18446744073709551616 := by
 unfold fnvStep
 omega
theorem fold_lt (l : List UInt8) (h : Nat) (hh : h < 18446744073709551616) : l.foldl fnvStep h < 18446744073709551616 := by
 induction l generalizing h with
 | nil => rw [List.foldl_nil]; exact hh
 | cons b r ih => rw [List.foldl_cons]; exact ih _ (fnvStep_lt h b)
theorem fnv_lt (l : List UInt8) : fnv l < 18446744073709551616 := by
 unfold fnv
 exact fold_lt l _ (by omega)
end Go.Proofs.Ytibnhjfeepdddaa.S
namespace Go.Proofs.Ytibnhjfeepdddaa.Fl

/-- The highest 32 bits, the lowest of them set. -/
def odd (h : Nat) : Nat := if h / 4294967296 % 2 = 0 then h / 4294967296 + 1 else h / 4294967296
/-- The i-th bit of a text, of n. -/
def pos (s : List UInt8) (n i : Nat) : Nat := (S.fnv s % 4294967296 + i * odd (S.fnv s)) % n
def four (s : List UInt8) (n : Nat) : List Nat := [pos s n 0, pos s n 1, pos s n 2, pos s n 3]
theorem odd_lt {h : Nat} (hh : h < 18446744073709551616) : odd h < 4294967296 := by unfold odd; split <;> omega
theorem pos_lt (s : List UInt8) {n : Nat} (hn : 0 < n) (i : Nat) : pos s n i < n := Nat.mod_lt _ hn
/-- How many bits, for d unlike texts. -/
def wid : Nat → Nat → Nat → Nat
 | 0, _, n => n
 | f + 1, d, n => if n < 8 * d ∧ n < 65536 then wid f d (2 * n) else n
def width (d : Nat) : Nat := wid 10 d 64
def IsW (n : Nat) : Prop := ∃ k, k ≤ 10 ∧ n = 64 * 2 ^ k
theorem wid_is (d : Nat) : ∀ f n, f ≤ 10 → n = 64 * 2 ^ (10 - f) → IsW (wid f d n)
 | 0, n, _, h => ⟨10, by omega, by simpa [wid] using h⟩
 | f + 1, n, hf, h => by
  unfold wid
  split
  ·refine wid_is d f (2 * n) (by omega) ?_
   rw [h, show 10 - f = (10 - (f + 1)) + 1 from by omega, Nat.pow_succ]; omega
  ·exact ⟨10 - (f + 1), by omega, h⟩
theorem width_is (d : Nat) : IsW (width d) := wid_is d 10 64 (by omega) rfl
theorem IsW.bounds {n : Nat} (h : IsW n) : 64 ≤ n ∧ n ≤ 65536 ∧ n % 8 = 0 := by
 obtain ⟨k, hk, rfl⟩ := h
 have h1 : 2 ^ k ≤ 2 ^ 10 := Nat.pow_le_pow_right (by omega) hk
 have h2 : 0 < 2 ^ k := Nat.pow_pos (by omega)
 omega
/-- The byte whose bits are those of P from 8 * j on. -/
def num8 (P : Nat → Bool) (j : Nat) : Nat := (P (8 * j)).toNat + 2 * (P (8 * j + 1)).toNat + 4 * (P (8 * j + 2)).toNat + 8 * (P (8 * j + 3)).toNat + 16 * (P (8 * j + 4)).toNat + 32 * (P (8 * j + 5)).toNat + 64 * (P (8 * j + 6)).toNat + 128 * (P (8 * j + 7)).toNat
theorem num8_lt (P : Nat → Bool) (j : Nat) : num8 P j < 256 := by
 have h := fun k => Bool.toNat_lt (P k)
 have h0 := h (8 * j); have h1 := h (8 * j + 1); have h2 := h (8 * j + 2); have h3 := h (8 * j + 3)
 have h4 := h (8 * j + 4); have h5 := h (8 * j + 5); have h6 := h (8 * j + 6); have h7 := h (8 * j + 7)
 unfold num8; omega
def byteOf (P : Nat → Bool) (j : Nat) : UInt8 := UInt8.ofNat (num8 P j)
theorem byteOf_toNat (P : Nat → Bool) (j : Nat) : (byteOf P j).toNat = num8 P j := by
 have := num8_lt P j
 unfold byteOf; rw [UInt8.toNat_ofNat']; omega
theorem num8_div (P : Nat → Bool) (j i : Nat) (hi : i < 8) : num8 P j / 2 ^ i % 2 = (P (8 * j + i)).toNat := by
 have h := fun k => Bool.toNat_lt (P k)
 have h0 := h (8 * j); have h1 := h (8 * j + 1); have h2 := h (8 * j + 2); have h3 := h (8 * j + 3)
 have h4 := h (8 * j + 4); have h5 := h (8 * j + 5); have h6 := h (8 * j + 6); have h7 := h (8 * j + 7)
 match i, hi with
 | 0, _ => simp only [Nat.pow_zero, Nat.div_one, Nat.add_zero]; unfold num8; omega
 | 1, _ => show num8 P j / 2 % 2 = _; unfold num8; omega
 | 2, _ => show num8 P j / 4 % 2 = _; unfold num8; omega
 | 3, _ => show num8 P j / 8 % 2 = _; unfold num8; omega
 | 4, _ => show num8 P j / 16 % 2 = _; unfold num8; omega
 | 5, _ => show num8 P j / 32 % 2 = _; unfold num8; omega
 | 6, _ => show num8 P j / 64 % 2 = _; unfold num8; omega
 | 7, _ => show num8 P j / 128 % 2 = _; unfold num8; omega
theorem num8_bit (P : Nat → Bool) (j i : Nat) (hi : i < 8) : (num8 P j).testBit i = P (8 * j + i) := by
 rw [Nat.testBit_eq_decide_div_mod_eq, num8_div P j i hi]
 cases P (8 * j + i) <;> rfl
/-- n bits, in bytes. -/
def fil (n : Nat) (P : Nat → Bool) : List UInt8 := (List.range (n / 8)).map (byteOf P)
theorem fil_len (n : Nat) (P : Nat → Bool) : (fil n P).length = n / 8 := by simp [fil]
theorem fil_at {n : Nat} {P : Nat → Bool} {j : Nat} (h : j < n / 8) : (fil n P)[j]? = some (byteOf P j) := by simp [fil, h]
theorem fil_none (n : Nat) : fil n (fun _ => false) = List.replicate (n / 8) 0 := by
 unfold fil
 rw [List.eq_replicate_iff]
 refine ⟨by simp, fun b hb => ?_⟩
 obtain ⟨j, _, rfl⟩ := List.mem_map.1 hb
 rfl
/-- One bit more. -/
def add (P : Nat → Bool) (k : Nat) : Nat → Bool := fun m => P m || m == k
theorem byte_or (P : Nat → Bool) (j i : Nat) (hi : i < 8) : num8 P j ||| 2 ^ i = num8 (add P (8 * j + i)) j := by
 refine Nat.eq_of_testBit_eq fun m => ?_
 rw [Nat.testBit_or]
 by_cases hm : m < 8
 ·rw [num8_bit _ _ _ hm, num8_bit _ _ _ hm]
  unfold add
  congr 1
  rw [Nat.testBit_two_pow]
  by_cases e : i = m
  ·subst e; simp
  ·rw [decide_eq_false e, beq_eq_false_iff_ne.2 (by omega)]
 ·have h1 : (num8 P j).testBit m = false := Nat.testBit_lt_two_pow (Nat.lt_of_lt_of_le (num8_lt P j) (by have : 2 ^ 8 ≤ 2 ^ m := Nat.pow_le_pow_right (by omega) (by omega); omega))
  have h2 : (num8 (add P (8 * j + i)) j).testBit m = false := Nat.testBit_lt_two_pow (Nat.lt_of_lt_of_le (num8_lt _ j) (by have : 2 ^ 8 ≤ 2 ^ m := Nat.pow_le_pow_right (by omega) (by omega); omega))
  rw [h1, h2, Nat.testBit_two_pow]
  simp; omega
theorem num8_add_ne (P : Nat → Bool) {j k : Nat} (h : j ≠ k / 8) : num8 (add P k) j = num8 P j := by
 have e : ∀ i, i < 8 → add P k (8 * j + i) = P (8 * j + i) := fun i hi => by
  unfold add
  have : (8 * j + i == k) = false := by simp; omega
  rw [this, Bool.or_false]
 unfold num8
 rw [show 8 * j = 8 * j + 0 from rfl, e 0 (by omega), e 1 (by omega), e 2 (by omega), e 3 (by omega), e 4 (by omega), e 5 (by omega), e 6 (by omega), e 7 (by omega)]
/-- A bit is set. -/
theorem fil_set {n : Nat} {P : Nat → Bool} {k : Nat} (hn : n % 8 = 0) (hk : k < n) {b : UInt8} (hb : b.toNat = num8 P (k / 8) ||| 2 ^ (k % 8)) : (fil n P).set (k / 8) b = fil n (add P k) := by
 have hk8 : k / 8 < n / 8 := by omega
 have hbe : b = byteOf (add P k) (k / 8) := by
  apply UInt8.toNat.inj
  rw [hb, byteOf_toNat, byte_or P (k / 8) (k % 8) (by omega), show 8 * (k / 8) + k % 8 = k from by omega]
 refine List.ext_getElem? fun j => ?_
 by_cases hj : j < n / 8
 ·rw [fil_at hj]
  by_cases e : k / 8 = j
  ·subst e
   rw [List.getElem?_set_self (by rw [fil_len]; exact hk8), hbe]
  ·rw [List.getElem?_set_ne e, fil_at hj]
   unfold byteOf
   rw [num8_add_ne P (Ne.symm e)]
 ·rw [List.getElem?_eq_none (by rw [List.length_set, fil_len]; omega), List.getElem?_eq_none (by rw [fil_len]; omega)]
/-- Is a bit set? -/
def tb (B : List UInt8) (k : Nat) : Bool := decide ((B.getD (k / 8) 0).toNat / 2 ^ (k % 8) % 2 = 1)
/-- The bits of texts. -/
def has (l : List (List UInt8)) (n : Nat) : Nat → Bool := fun m => l.any fun s => (four s n).contains m
theorem has_iff {l : List (List UInt8)} {n m : Nat} : has l n m = true ↔ ∃ s ∈ l, m ∈ four s n := by
 simp [has]
theorem has_congr {l d : List (List UInt8)} (h : ∀ x, x ∈ l ↔ x ∈ d) (n : Nat) : has l n = has d n := by
 funext m
 rw [Bool.eq_iff_iff, has_iff, has_iff]
 exact ⟨fun ⟨s, h1, h2⟩ => ⟨s, (h s).1 h1, h2⟩, fun ⟨s, h1, h2⟩ => ⟨s, (h s).2 h1, h2⟩⟩
theorem has_nil (n : Nat) : has [] n = fun _ => false := rfl
theorem has_snoc (l : List (List UInt8)) (s : List UInt8) (n : Nat) : has (l ++ [s]) n = add (add (add (add (has l n) (pos s n 0)) (pos s n 1)) (pos s n 2)) (pos s n 3) := by
 funext m
 simp only [has, add, four, List.any_append, List.any_cons, List.any_nil, Bool.or_false, List.contains_cons, List.contains_nil, Bool.or_assoc]
/-- What is built. -/
def bits (l : List (List UInt8)) : Nat := width (T.bld l).length
def bytes (l : List (List UInt8)) : List UInt8 := fil (bits l) (has l (bits l))
theorem bits_is (l : List (List UInt8)) : IsW (bits l) := width_is _
theorem bytes_len (l : List (List UInt8)) : (bytes l).length = bits l / 8 := fil_len _ _
theorem same {l m : List (List UInt8)} (h : ∀ x, x ∈ l ↔ x ∈ m) : bits l = bits m ∧ bytes l = bytes m := by
 have e : T.bld l = T.bld m := T.rise_same (T.rise_bld l) (T.rise_bld m) fun x => by rw [T.mem_bld, T.mem_bld]; exact h x
 have e1 : bits l = bits m := by unfold bits; rw [e]
 exact ⟨e1, by unfold bytes; rw [e1, has_congr h]⟩
def rightB (k : Int) (n : Nat) : Bool := (List.range 11).any fun i => decide (k = ((64 * 2 ^ i : Nat) : Int)) && decide (n = 64 * 2 ^ i / 8)
theorem right_iff {k : Int} {n : Nat} : rightB k n = true ↔ ∃ m, IsW m ∧ k = (m : Int) ∧ n = m / 8 := by
 unfold rightB
 rw [List.any_eq_true]
 constructor
 ·rintro ⟨i, hi, h⟩
  simp only [Bool.and_eq_true, decide_eq_true_eq] at h
  exact ⟨64 * 2 ^ i, ⟨i, by have := List.mem_range.1 hi; omega, rfl⟩, h.1, h.2⟩
 ·rintro ⟨m, ⟨i, hi, rfl⟩, h1, h2⟩
  refine ⟨i, List.mem_range.2 (by omega), ?_⟩
  simp [h1, h2]
/-- May a text be in a filter? -/
def may (k : Int) (B : List UInt8) (s : List UInt8) : Bool := !rightB k B.length || (four s k.toNat).all (tb B)
end Go.Proofs.Ytibnhjfeepdddaa.Fl
