/-
  The contracts of the document's own answers for bits (Width, Size, Pack, Unpack), of the statements' own 'few' and of Same over numbers, over the program. The contract of the document's own Pack over the program.
-/
import Derived.Test.YtnmonoafjijfhabGreatM09
import Derived.Test.YtnmonoafjijfhabGreatM11
namespace Go.Proofs.YtnmonoafjijfhabGreat
open Go.RowKit
set_option linter.unusedVariables false

/-- A value's block, if it has one, is new. -/
def Fresh (base : Nat) (v : Value) : Prop := ∀ g, v.ownBlock = some g → base ≤ g
theorem Fresh.nil (base : Nat) : Fresh base (.slice none 0 0) := fun g h => by simp [Value.ownBlock] at h
theorem Fresh.at (g n c : Nat) : Fresh g (.slice (some ⟨g, 0, none⟩) n c) := fun k h => by simp [Value.ownBlock] at h; omega
end Go.Proofs.YtnmonoafjijfhabGreat
namespace Go.Proofs.YtnmonoafjijfhabGreat
open Go.RowKit
set_option linter.unusedVariables false

/-- What Pack has laid when it stands at place q. -/
def PB (D : Nat) (l : List Nat) (q : Nat) : List UInt8 := B.bytesOf (fun p => decide (p < q) && B.bitW D l p) (B.size l.length D)
theorem PB_len (D : Nat) (l : List Nat) (q : Nat) : (PB D l q).length = B.size l.length D := B.bytesOf_len _ _
theorem PB_bit (D : Nat) (l : List Nat) (q p : Nat) : B.bit8 (PB D l q) p = (decide (p < 8 * B.size l.length D) && (decide (p < q) && B.bitW D l p)) := B.bit8_of _ _ _
theorem bit8_zero (n p : Nat) : B.bit8 (List.replicate n 0) p = false := by
  unfold B.bit8
  simp only [List.getD_eq_getElem?_getD, List.getElem?_replicate]
  split <;> simp
theorem PB_start (D : Nat) (l : List Nat) : PB D l 0 = List.replicate (B.size l.length D) 0 := by
  apply B.ext8
  · rw [PB_len]; simp
  · intro p _
    rw [PB_bit, bit8_zero]; simp
theorem PB_same {D : Nat} {l : List Nat} {q : Nat} (h : B.bitW D l q = false) : PB D l (q + 1) = PB D l q := by
  apply B.ext8
  · rw [PB_len, PB_len]
  · intro p _
    rw [PB_bit, PB_bit]
    by_cases hp : p = q
    · subst hp; simp [h]
    · have : (decide (p < q + 1)) = decide (p < q) := by simp; omega
      rw [this]
theorem bit8_set (b : List UInt8) (q : Nat) (hq : q / 8 < b.length) (X : UInt8) (hX : X.toNat = (b.getD (q / 8) 0).toNat ||| 2 ^ (q % 8)) (p : Nat) : B.bit8 (b.set (q / 8) X) p = (B.bit8 b p || decide (p = q)) := by
  unfold B.bit8
  simp only [List.getD_eq_getElem?_getD]
  by_cases h : p / 8 = q / 8
  · rw [h, List.getElem?_set_self hq, Option.getD_some, hX, Nat.testBit_or, Nat.testBit_two_pow, List.getD_eq_getElem?_getD]
    congr 1
    simp only [decide_eq_decide]
    omega
  · rw [List.getElem?_set_ne (fun e => h e.symm)]
    have : ¬ p = q := fun e => h (by rw [e])
    simp [this]
theorem PB_set {D : Nat} {l : List Nat} {q : Nat} (hq : q < l.length * D) (h : B.bitW D l q = true) (X : UInt8) (hX : X.toNat = ((PB D l q).getD (q / 8) 0).toNat ||| 2 ^ (q % 8)) : (PB D l q).set (q / 8) X = PB D l (q + 1) := by
  have hs := B.size_le l.length D
  apply B.ext8
  · rw [List.length_set, PB_len, PB_len]
  · intro p _
    rw [bit8_set _ _ (by rw [PB_len]; omega) X hX, PB_bit, PB_bit]
    by_cases hp : p = q
    · subst hp; simp [h]; omega
    · have : (decide (p < q + 1)) = decide (p < q) := by simp; omega
      rw [this]; simp [hp]

theorem bit_one {x j : Nat} (hx : x < 18446744073709551616) (h : x.testBit j = true) : bits .and .u64 ((x : Int) / 2 ^ j) 1 = 1 := by
  have e : (x : Int) / 2 ^ j = ((x / 2 ^ j : Nat) : Int) := by simp
  have hd := Nat.div_le_self x (2 ^ j)
  rw [Nat.testBit_eq_decide_div_mod_eq] at h
  rw [e]
  generalize x / 2 ^ j = y at hd h ⊢
  rw [I.and1 _ (by omega) (by omega)]
  simp at h
  omega
theorem bit_none {x j : Nat} (hx : x < 18446744073709551616) (h : x.testBit j = false) : bits .and .u64 ((x : Int) / 2 ^ j) 1 = 0 := by
  have e : (x : Int) / 2 ^ j = ((x / 2 ^ j : Nat) : Int) := by simp
  have hd := Nat.div_le_self x (2 ^ j)
  rw [Nat.testBit_eq_decide_div_mod_eq] at h
  rw [e]
  generalize x / 2 ^ j = y at hd h ⊢
  rw [I.and1 _ (by omega) (by omega)]
  simp at h
  omega
theorem two_lt {t : Nat} (ht : t < 8) : 2 ^ t < 256 := Nat.pow_lt_pow_right (a := 2) (m := t) (n := 8) (by decide) ht
theorem or_bit (o t : Nat) (ho : o < 256) (ht : t < 8) : bits .or .u8 (o : Int) (2 ^ t % 256) = ((o ||| 2 ^ t : Nat) : Int) := by
  have h := two_lt ht
  have e : (2 : Int) ^ t % 256 = ((2 ^ t : Nat) : Int) := by
    have : ((2 ^ t : Nat) : Int) = (2 : Int) ^ t := by simp
    rw [← this]
    generalize 2 ^ t = y at h ⊢
    omega
  rw [e]
  exact (bits_nat .u8 8 (by decide) wraps_u8 o (2 ^ t) (by omega) (by omega)).2
theorem or_lt (o t : Nat) (ho : o < 256) (ht : t < 8) : o ||| 2 ^ t < 256 := by
  have h := Nat.or_lt_two_pow (x := o) (y := 2 ^ t) (n := 8) (by omega) (two_lt ht)
  omega
/-- A bit is set in a row of bytes. -/
theorem row_bit {w : World} {g q : Nat} {D : Nat} {l : List Nat} (h : RowAt n8 5 w g (PB D l q)) (hq : q < l.length * D) (hb : B.bitW D l q = true) :
    RowAt n8 5 (w.setCell ⟨g, q / 8, none⟩ (.int .u8 (bits .or .u8 (M.bAt (PB D l q) (q / 8) : Int) (2 ^ (q % 8) % 256)))) g (PB D l (q + 1)) := by
  have ho := M.bAt_lt (PB D l q) (q / 8)
  have ht : q % 8 < 8 := by omega
  rw [or_bit _ _ ho ht]
  have hX : (UInt8.ofNat (M.bAt (PB D l q) (q / 8) ||| 2 ^ (q % 8))).toNat = ((PB D l q).getD (q / 8) 0).toNat ||| 2 ^ (q % 8) := by
    rw [UInt8.toNat_ofNat', Nat.mod_eq_of_lt (or_lt _ _ ho ht)]; rfl
  have := h.set (k := q / 8) (v := .int .u8 ((M.bAt (PB D l q) (q / 8) ||| 2 ^ (q % 8) : Nat) : Int)) (UInt8.ofNat (M.bAt (PB D l q) (q / 8) ||| 2 ^ (q % 8))) (by rw [n8, hX]; rfl)
  rw [PB_set hq hb _ hX] at this
  exact this
theorem IsByt.nil (w : World) : IsByt [] (.slice none 0 0) w := ⟨none, 0, rfl, Byt.nil w⟩

end Go.Proofs.YtnmonoafjijfhabGreat
