/-
  The contract of the document's own Encode (layer 5) over the program.
-/
import Derived.Test.YtkhbkifofkjjnaaRsame
import Derived.Test.YtkhbkifofkjjnaaTail
namespace Go.Proofs.Ytkhbkifofkjjnaa
open Go.RowKit
set_option linter.unusedVariables false

theorem enc_len {w : Nat} (hw : w ≤ 32) : ∀ (m : Nat) (l : List Nat), l.length ≤ m → (R.enc w l).length ≤ 50 * l.length
  | 0, l, hm => by
    obtain rfl : l = [] := List.length_eq_zero_iff.1 (by omega)
    simp [R.enc_nil]
  | m + 1, l, hm => by
    by_cases hl : l = []
    · subst hl; simp [R.enc_nil]
    · have hp : 0 < l.length := List.length_pos_iff.2 hl
      rw [R.enc_eq w hl]
      split
      · rename_i h8
        have hr := R.runLen_le l
        have ih := enc_len hw m (l.drop (R.runLen l)) (by simp; omega)
        have hd := M.digs_len (2 * R.runLen l)
        simp only [List.length_append, List.length_drop, R.few_len] at ih ⊢
        omega
      · have hg := R.groups_pos hl
        have hg2 := R.groups_le l
        have ih := enc_len hw m (l.drop (8 * R.groups l)) (by simp; omega)
        have hd := M.digs_len (2 * R.groups l + 1)
        have hpl : (R.pad (8 * R.groups l) (l.take (8 * R.groups l))).length = 8 * R.groups l := R.pad_len (by simp; omega)
        have hpk : (B.pack w (R.pad (8 * R.groups l) (l.take (8 * R.groups l)))).length ≤ 32 * R.groups l := by
          rw [B.pack_len, hpl]
          unfold B.size
          have h1 : 8 * R.groups l * w ≤ 8 * R.groups l * 32 := Nat.mul_le_mul_left _ hw
          omega
        simp only [List.length_append, List.length_drop] at ih ⊢
        omega
theorem Rd.sub {α : Type} {enc : α → Value} {w : World} {a : Option Addr} {cap : Nat} {l : List α} (h : Rd enc w a cap l) (k n : Nat) (hk : k + n ≤ l.length) : Rd enc w (a.map (·.add k)) (cap - k) ((l.drop k).take n) := by
  obtain ⟨h1, h2, h3, h4⟩ := h
  refine ⟨by simp; omega, by omega, fun ha => ?_, fun i x hi => ?_⟩
  · have := h3 (by simpa using ha); omega
  · rw [List.getElem?_take] at hi
    split at hi
    · rw [List.getElem?_drop] at hi
      obtain ⟨b, off, rfl, hc⟩ := h4 (k + i) x hi
      exact ⟨b, off + k, by rw [Option.map_some, add_none], by rw [Nat.add_assoc]; exact hc⟩
    · cases hi
set_option maxRecDepth 100000 in
theorem renc_refuse (a : Option Addr) (cap : Nat) (l : List Nat) (wd : Int) (w : World) (hB : Rd n64 w a cap l) (h64 : ∀ x ∈ l, x < 18446744073709551616) (h : wd < 0 ∨ 32 < wd ∨ wd.toNat < B.width l) :
    Calls Try.prog 31 #[.slice a l.length cap, .int .i64 wd] w fun e w' => ∃ v, e = .returned (.tuple #[v, .int .i64 15]) ∧ Own w' w.heap.size v [] ∧ Ex w w' := by
  have HB : Hid (Rd n64 w a cap l) := hB
  have H64 : Hid (∀ x ∈ l, x < 18446744073709551616) := h64
  clear hB h64
  by_cases a1 : wd < 0
  · have t1 : decide (wd < 0) = true := by simp; omega
    go_enter Try.func31, Try.ntmps31
    go_wp2
    go_ret2
    exact ⟨_, rfl, own_none _ _, Ex.refl _⟩
  · have t1 : decide (wd < 0) = false := by simp; omega
    by_cases a2 : 32 < wd
    · have t2 : decide (32 < wd) = true := by simp; omega
      go_enter Try.func31, Try.ntmps31
      go_wp2
      go_ret2
      exact ⟨_, rfl, own_none _ _, Ex.refl _⟩
    · have t2 : decide (32 < wd) = false := by simp; omega
      have t3 : decide (wd < (B.width l : Int)) = true := by simp; omega
      go_enter Try.func31, Try.ntmps31
      go_wp2_with fail
      refine (rwidth_any a cap l _ HB.out H64.out).mono ?_
      rintro e wq ⟨rfl, hw'⟩
      have hw'' := hw'.symm
      clear hw'
      subst hw''
      go_wp2
      go_ret2
      exact ⟨_, rfl, own_none _ _, Ex.refl _⟩
end Go.Proofs.Ytkhbkifofkjjnaa
