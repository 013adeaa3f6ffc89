/-
  The contract of the document's own Unpack over the program. Package bits: its small functions (isWidth, isCount, bytesOf, bitAt, hasBitsFrom), Width and Size.
-/
import Derived.Test.YtnmonoafjijfhaaGreatM16
namespace Go.Proofs.YtnmonoafjijfhaaGreat
open Go.RowKit
set_option linter.unusedVariables false

/-- What Unpack has laid when it stands at place q. -/
def UN (D n : Nat) (b : List UInt8) (q : Nat) : List Nat := (List.range n).map fun i => B.num (fun t => decide (i * D + t < q) && B.bit8 b (i * D + t)) D
theorem UN_len (D n : Nat) (b : List UInt8) (q : Nat) : (UN D n b q).length = n := by simp [UN]
theorem UN_at {D n : Nat} {b : List UInt8} {q i : Nat} (h : i < n) : (UN D n b q)[i]'(by rw [UN_len]; exact h) = B.num (fun t => decide (i * D + t < q) && B.bit8 b (i * D + t)) D := by simp [UN]
theorem UN_lt {D n : Nat} {b : List UInt8} {q i : Nat} (h : i < n) : (UN D n b q)[i]'(by rw [UN_len]; exact h) < 2 ^ D := by rw [UN_at h]; exact B.num_lt _ _
theorem num_nought (f : Nat → Bool) (n : Nat) (h : ∀ i, i < n → f i = false) : B.num f n = 0 := by
  apply Nat.eq_of_testBit_eq
  intro i
  rw [B.num_bit]
  by_cases hi : i < n
  · simp [h i hi]
  · simp [hi]
theorem UN_start (D n : Nat) (b : List UInt8) : UN D n b 0 = List.replicate n 0 := by
  apply List.ext_getElem
  · simp [UN]
  · intro i h1 h2
    rw [UN_at (by simpa using h2), num_nought _ _ (by intro t _; simp)]
    simp
theorem UN_end {D n : Nat} {b : List UInt8} {q : Nat} (h : n * D ≤ q) : UN D n b q = B.unpack D n b := by
  apply List.ext_getElem
  · simp [UN, B.unpack]
  · intro i h1 h2
    have hi : i < n := by simpa [UN] using h1
    rw [UN_at hi]
    simp only [B.unpack, List.getElem_map, List.getElem_range]
    apply B.num_same
    intro t ht
    have := B.place_lt hi ht
    simp; omega
theorem UN_same {D n : Nat} {b : List UInt8} {q : Nat} (h : B.bit8 b q = false) : UN D n b (q + 1) = UN D n b q := by
  apply List.ext_getElem
  · simp [UN]
  · intro i h1 h2
    have hi : i < n := by simpa [UN] using h1
    rw [UN_at hi, UN_at hi]
    apply B.num_same
    intro t ht
    by_cases hp : i * D + t = q
    · rw [hp, h]; simp
    · have : (decide (i * D + t < q + 1)) = decide (i * D + t < q) := by simp; omega
      rw [this]
theorem UN_set {D n : Nat} {b : List UInt8} {q : Nat} (hq : q < n * D) (h : B.bit8 b q = true) (hD : 0 < D) (hi : q / D < n) :
    (UN D n b q).set (q / D) ((UN D n b q)[q / D]'(by rw [UN_len]; exact hi) ||| 2 ^ (q % D)) = UN D n b (q + 1) := by
  have hqe : q / D * D + q % D = q := by rw [Nat.mul_comm]; exact Nat.div_add_mod q D
  have hml : q % D < D := Nat.mod_lt _ hD
  apply List.ext_getElem
  · simp [UN]
  · intro i h1 h2
    have hin : i < n := by simpa [UN] using h2
    rw [List.getElem_set]
    by_cases he : q / D = i
    · subst he
      rw [if_pos rfl, UN_at hin, UN_at hin]
      apply Nat.eq_of_testBit_eq
      intro t
      rw [Nat.testBit_or, B.num_bit, B.num_bit, Nat.testBit_two_pow]
      by_cases ht : t < D
      · by_cases hp : q % D = t
        · subst hp
          rw [hqe, h]; simp [hml]
        · have h3 : ¬ q / D * D + t = q := fun e => hp (by omega)
          have : (decide (q / D * D + t < q + 1)) = decide (q / D * D + t < q) := by simp; omega
          rw [this]; simp [hp]
      · have : ¬ q % D = t := by omega
        simp [ht, this]
    · rw [if_neg he, UN_at hin, UN_at hin]
      apply B.num_same
      intro t ht
      have hne : ¬ i * D + t = q := fun e => he (by rw [← e]; exact B.place_div ht)
      have : (decide (i * D + t < q + 1)) = decide (i * D + t < q) := by simp; omega
      rw [this]
theorem I.and1b (n : Int) (h : 0 ≤ n) (h2 : n ≤ 255) : bits .and .u8 n 1 = n % 2 :=
  bits_mask .u8 8 (by decide) wraps_u8 1 (by decide) n h (by omega)
theorem bit8_one {b : List UInt8} {p : Nat} (h : B.bit8 b p = true) : bits .and .u8 ((M.bAt b (p / 8) : Int) / 2 ^ (p % 8)) 1 = 1 := by
  have hb := M.bAt_lt b (p / 8)
  unfold B.bit8 at h
  have h' : (M.bAt b (p / 8)).testBit (p % 8) = true := h
  rw [Nat.testBit_eq_decide_div_mod_eq] at h'
  have e : (M.bAt b (p / 8) : Int) / 2 ^ (p % 8) = ((M.bAt b (p / 8) / 2 ^ (p % 8) : Nat) : Int) := by simp
  have hd := Nat.div_le_self (M.bAt b (p / 8)) (2 ^ (p % 8))
  rw [e]
  generalize M.bAt b (p / 8) / 2 ^ (p % 8) = y at hd h' ⊢
  rw [I.and1b _ (by omega) (by omega)]
  simp at h'
  omega
theorem bit8_none {b : List UInt8} {p : Nat} (h : B.bit8 b p = false) : bits .and .u8 ((M.bAt b (p / 8) : Int) / 2 ^ (p % 8)) 1 = 0 := by
  have hb := M.bAt_lt b (p / 8)
  unfold B.bit8 at h
  have h' : (M.bAt b (p / 8)).testBit (p % 8) = false := h
  rw [Nat.testBit_eq_decide_div_mod_eq] at h'
  have e : (M.bAt b (p / 8) : Int) / 2 ^ (p % 8) = ((M.bAt b (p / 8) / 2 ^ (p % 8) : Nat) : Int) := by simp
  have hd := Nat.div_le_self (M.bAt b (p / 8)) (2 ^ (p % 8))
  rw [e]
  generalize M.bAt b (p / 8) / 2 ^ (p % 8) = y at hd h' ⊢
  rw [I.and1b _ (by omega) (by omega)]
  simp at h'
  omega
end Go.Proofs.YtnmonoafjijfhaaGreat
namespace Go.Proofs.YtnmonoafjijfhaaGreat
open Go.RowKit
set_option linter.unusedVariables false

theorem isWidth_is (d : Int) (w : World) (r : Bool) (hr : decide (0 ≤ d ∧ d ≤ 64) = r) :
    Calls Tryz.prog 131 #[.int .i64 d] w fun e w' => e = .returned (.bool r) ∧ w' = w := by
  subst hr
  by_cases a1 : 0 ≤ d
  · have t1 : decide (0 ≤ d) = true := by simp; omega
    have hr : decide (0 ≤ d ∧ d ≤ 64) = decide (d ≤ 64) := by simp; omega
    rw [hr]
    clear hr
    go_enter Tryz.func131, Tryz.ntmps131
    go_wp2
    go_ret
    exact ⟨rfl, rfl⟩
  · have t1 : decide (0 ≤ d) = false := by simp; omega
    have hr : decide (0 ≤ d ∧ d ≤ 64) = false := by simp; omega
    rw [hr]
    clear hr
    go_enter Tryz.func131, Tryz.ntmps131
    go_wp2
    go_ret
    exact ⟨rfl, rfl⟩
theorem isCount_is (d : Int) (w : World) (r : Bool) (hr : decide (0 ≤ d ∧ d ≤ 16777216) = r) :
    Calls Tryz.prog 148 #[.int .i64 d] w fun e w' => e = .returned (.bool r) ∧ w' = w := by
  subst hr
  by_cases a1 : 0 ≤ d
  · have t1 : decide (0 ≤ d) = true := by simp; omega
    have hr : decide (0 ≤ d ∧ d ≤ 16777216) = decide (d ≤ 16777216) := by simp; omega
    rw [hr]
    clear hr
    go_enter Tryz.func148, Tryz.ntmps148
    go_wp2
    go_ret
    exact ⟨rfl, rfl⟩
  · have t1 : decide (0 ≤ d) = false := by simp; omega
    have hr : decide (0 ≤ d ∧ d ≤ 16777216) = false := by simp; omega
    rw [hr]
    clear hr
    go_enter Tryz.func148, Tryz.ntmps148
    go_wp2
    go_ret
    exact ⟨rfl, rfl⟩
set_option maxRecDepth 100000 in
theorem bytesOf_is (b : Int) (S : Nat) (w : World) (hb : b = (S : Int)) (hS : S ≤ 4294967296) (r : Nat) (hr : (S + 7) / 8 = r) :
    Calls Tryz.prog 132 #[.int .i64 b] w fun e w' => e = .returned (.int .i64 r) ∧ w' = w := by
  subst hr
  subst hb
  go_enter Tryz.func132, Tryz.ntmps132
  go_wp2
  go_ret
  exact ⟨I.ret_int (by omega), rfl⟩
/-- The bit at a place, as a number. -/
def bitN (b : List UInt8) (p : Nat) : Nat := if B.bit8 b p then 1 else 0
set_option maxRecDepth 100000 in
theorem bitAt_is (a : Option Addr) (len cap : Nat) (b : List UInt8) (i : Int) (p : Nat) (w : World) (hlen : len = b.length) (hB : Byt w a cap b) (hi : i = (p : Int)) (hbl : b.length ≤ 134217729) (hp : p < 8 * b.length) (r : Nat) (hr : bitN b p = r) :
    Calls Tryz.prog 151 #[.slice a len cap, .int .i64 i] w fun e w' => e = .returned (.int .u8 r) ∧ w' = w := by
  subst hlen
  subst hi
  obtain ⟨bb, off, rfl, hc⟩ := hB.2.2.2 (p / 8) (by omega)
  have hib : (p : Int) / 8 < (b.length : Int) := by omega
  have hcx : w.cell? ⟨bb, off + p / 8, none⟩ = some (.int .u8 (M.bAt b (p / 8))) := hc
  clear hc hB
  have hand : bits .and .u8 ((M.bAt b (p / 8) : Int) / 2 ^ (p % 8)) 1 = (r : Int) := by
    unfold bitN at hr
    cases hb : B.bit8 b p
    · rw [bit8_none hb]; rw [hb] at hr; simp at hr; omega
    · rw [bit8_one hb]; rw [hb] at hr; simp at hr; omega
  clear hr
  go_enter Tryz.func151, Tryz.ntmps151
  go_wp2
  go_ret
  exact ⟨rfl, rfl⟩
end Go.Proofs.YtnmonoafjijfhaaGreat
