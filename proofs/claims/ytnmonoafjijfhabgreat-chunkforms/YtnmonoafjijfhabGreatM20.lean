/-
  The contracts of the document's own 'same' and 'few' (layer 5) over the program. The contract of the document's own Encode (layer 5) over the program.
-/
import Derived.Test.YtnmonoafjijfhabGreatM12
import Derived.Test.YtnmonoafjijfhabGreatM05
import Derived.Test.YtnmonoafjijfhabGreatM03
import Derived.Test.YtnmonoafjijfhabGreatM19
import Derived.Test.YtnmonoafjijfhabGreatM02
namespace Go.Proofs.YtnmonoafjijfhabGreat
open Go.RowKit
set_option linter.unusedVariables false

theorem tw_step {l : List Nat} {x n : Nat} (h : n < l.length) (e : l[n] = x) : R.tw x (l.drop n) = 1 + R.tw x (l.drop (n + 1)) := by
  rw [List.drop_eq_getElem_cons h]; simp [R.tw, e]
theorem tw_stop {l : List Nat} {x n : Nat} (h : n < l.length) (e : ¬ l[n] = x) : R.tw x (l.drop n) = 0 := by
  rw [List.drop_eq_getElem_cons h]; simp [R.tw, e]
theorem runLen_at {l : List Nat} {p : Nat} (h : p < l.length) : R.runLen (l.drop p) = R.tw l[p] (l.drop p) := by
  unfold R.runLen
  rw [List.drop_eq_getElem_cons h]; rfl

/-- The first i bytes of a number. -/
def fewK (x i : Nat) : List UInt8 := (List.range i).map fun i => UInt8.ofNat (x / 2 ^ (8 * i))
theorem fewK_len (x i : Nat) : (fewK x i).length = i := by simp [fewK]
theorem fewK_succ (x i : Nat) : fewK x (i + 1) = fewK x i ++ [UInt8.ofNat (x / 2 ^ (8 * i))] := by simp [fewK, List.range_succ]
theorem own_none (w : World) (base : Nat) : Own w base (.slice none 0 0) [] := World.ownsRow_nil w base 5 1
end Go.Proofs.YtnmonoafjijfhabGreat
namespace Go.Proofs.YtnmonoafjijfhabGreat
open Go.RowKit
set_option linter.unusedVariables false

theorem enc_len {w : Nat} (hw : w ≤ 32) : ∀ (m : Nat) (l : List Nat), l.length ≤ m → (R.enc w l).length ≤ 50 * l.length
  | 0, l, hm => by
    obtain rfl : l = [] := List.length_eq_zero_iff.1 (by omega)
    simp [R.enc_nil]
  | m + 1, l, hm => by
    by_cases hl : l = []
    · subst hl; simp [R.enc_nil]
    · have hp : 0 < l.length := List.length_pos_iff.2 hl
      rw [R.enc_eq w hl]
      split
      · rename_i h8
        have hr := R.runLen_le l
        have ih := enc_len hw m (l.drop (R.runLen l)) (by simp; omega)
        have hd := M.digs_len (2 * R.runLen l)
        simp only [List.length_append, List.length_drop, R.few_len] at ih ⊢
        omega
      · have hg := R.groups_pos hl
        have hg2 := R.groups_le l
        have ih := enc_len hw m (l.drop (8 * R.groups l)) (by simp; omega)
        have hd := M.digs_len (2 * R.groups l + 1)
        have hpl : (R.pad (8 * R.groups l) (l.take (8 * R.groups l))).length = 8 * R.groups l := R.pad_len (by simp; omega)
        have hpk : (B.pack w (R.pad (8 * R.groups l) (l.take (8 * R.groups l)))).length ≤ 32 * R.groups l := by
          rw [B.pack_len, hpl]
          unfold B.size
          have h1 : 8 * R.groups l * w ≤ 8 * R.groups l * 32 := Nat.mul_le_mul_left _ hw
          omega
        simp only [List.length_append, List.length_drop] at ih ⊢
        omega
theorem Rd.sub {α : Type} {enc : α → Value} {w : World} {a : Option Addr} {cap : Nat} {l : List α} (h : Rd enc w a cap l) (k n : Nat) (hk : k + n ≤ l.length) : Rd enc w (a.map (·.add k)) (cap - k) ((l.drop k).take n) := by
  obtain ⟨h1, h2, h3, h4⟩ := h
  refine ⟨by simp; omega, by omega, fun ha => ?_, fun i x hi => ?_⟩
  · have := h3 (by simpa using ha); omega
  · rw [List.getElem?_take] at hi
    split at hi
    · rw [List.getElem?_drop] at hi
      obtain ⟨b, off, rfl, hc⟩ := h4 (k + i) x hi
      exact ⟨b, off + k, by rw [Option.map_some, add_none], by rw [Nat.add_assoc]; exact hc⟩
    · cases hi
end Go.Proofs.YtnmonoafjijfhabGreat
