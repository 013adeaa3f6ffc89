/-
  What calls of varint leave, as sentences for regions whose order is open.
-/
import Derived.Test.YtphlfajkcbhpoaaText
import Derived.Test.YtphlfajkcbhpoaaMore
import Derived.Test.YtphlfajkcbhpoaaSteps
namespace Go.Proofs.Ytphlfajkcbhpoaa
open Go.RowKit
set_option linter.unusedVariables false

/-- A later world: nothing that was there has turned. -/
def Ex (w w' : World) : Prop := Below w.heap.size w w'
theorem Ex.refl (w : World) : Ex w w := Below.refl _ _
theorem Ex.trans {a b c : World} (h : Ex a b) (k : Ex b c) : Ex a c := Below.trans h (Below.mono k h.size)
theorem Ex.drew (w : World) : Ex w w.drew := (Below.refl _ _).drew
/-- A value is a slice of the bytes l. -/
def IsByt (l : List UInt8) (v : Value) (w : World) : Prop := ∃ a cap, v = .slice a l.length cap ∧ Byt w a cap l
theorem IsByt.stands (l : List UInt8) : ∀ v w w', IsByt l v w → Ex w w' → IsByt l v w' := by
  rintro v w w' ⟨a, cap, rfl, h⟩ hb
  exact ⟨a, cap, rfl, h.below hb⟩
theorem Own.isByt {w : World} {base : Nat} {v : Value} {l : List UInt8} (h : Own w base v l) : IsByt l v w := h.byt
theorem conv_row {l : List UInt8} {v : Value} {w : World} (h : IsByt l v w) : (convert 22 9 v).run Try.prog w = .ok (.string (str l)) w := by
  obtain ⟨a, cap, rfl, hb⟩ := h
  exact run_str hb rfl
theorem len_row {l : List UInt8} {v : Value} {w : World} (h : IsByt l v w) : (Builtin.len_ #[22] 3 #[v]).run Try.prog w = .ok (.int .i64 l.length) w := by
  obtain ⟨a, cap, rfl, hb⟩ := h
  simp [Builtin.len_, run_underlying Try.underlying22]
  rfl
theorem Byt.take {w : World} {a : Option Addr} {cap : Nat} {l : List UInt8} (h : Byt w a cap l) {k : Nat} (hk : k ≤ l.length) : Byt w a cap (l.take k) := by
  obtain ⟨h1, h2, h3, h4⟩ := h
  refine ⟨by simp; omega, h2, h3, fun i hi => ?_⟩
  have hi' : i < k := by simp at hi; omega
  obtain ⟨b, off, ha, hc⟩ := h4 i (by omega)
  refine ⟨b, off, ha, ?_⟩
  rw [hc]
  simp [M.bAt, hi']
theorem slice_row (a : Option Addr) (n cap k : Nat) (w : World) (hk : k ≤ cap) (hc : cap ≤ maxLen) : (Instr.sliceAt 22 (.slice a n cap) none (some (.int .i64 k)) none).run Try.prog w = .ok (.slice a k cap) w := by
  unfold maxLen at hc
  have h1 : (k : Int) ≤ (cap : Int) := by omega
  have h2 : (0 : Int) ≤ (k : Int) := by omega
  have h3 : (k : Int) ≤ 9223372036854775807 := by omega
  go_simp
theorem put_row {w0 : World} (v : Nat) (w : World) (hC : Ex w0 w) (hv : v < 18446744073709551616) :
    Calls Try.prog 17 #[.slice none 0 0, .int .u64 v] w (fun e w' => ∃ v', e = .returned v' ∧ Rg.Spec.ok (.inr (IsByt (M.digs v))) v' w' ∧ Ex w w' ∧ Ex w0 w') := by
  refine (put_is none 0 0 [] (M.digs v) _ v _ rfl (by simp) (Byt.nil _) rfl hv (by simp)).mono ?_
  rintro e w2 ⟨v2, rfl, ho2, hb2⟩
  exact ⟨v2, rfl, ho2.isByt, hb2, hC.trans hb2⟩
theorem zig_row {w0 : World} (n m : Int) (w : World) (hC : Ex w0 w) (h1 : -9223372036854775808 ≤ n) (h2 : n ≤ 9223372036854775807) (hm : M.zig n = m) :
    Calls Try.prog 12 #[.int .i64 n] w (fun e w' => ∃ v', e = .returned v' ∧ Rg.Spec.ok (.inl (.int .u64 m)) v' w' ∧ Ex w w' ∧ Ex w0 w') := by
  refine (zig_is n m w h1 h2 hm).mono ?_
  rintro e w2 ⟨rfl, rfl⟩
  exact ⟨_, rfl, rfl, Ex.refl _, hC⟩
theorem zag_row {w0 : World} (n m : Int) (w : World) (hC : Ex w0 w) (h1 : 0 ≤ n) (h2 : n ≤ 18446744073709551615) (hm : M.zag n = m) :
    Calls Try.prog 13 #[.int .u64 n] w (fun e w' => ∃ v', e = .returned v' ∧ Rg.Spec.ok (.inl (.int .i64 m)) v' w' ∧ Ex w w' ∧ Ex w0 w') := by
  refine (zag_is n m w h1 h2 hm).mono ?_
  rintro e w2 ⟨rfl, rfl⟩
  exact ⟨_, rfl, rfl, Ex.refl _, hC⟩
theorem known_row {w0 : World} (w : World) (hC : Ex w0 w) :
    Calls Try.prog 14 #[] w (fun e w' => ∃ v', e = .returned v' ∧ Rg.Spec.ok (.inl (.bool true)) v' w' ∧ Ex w w' ∧ Ex w0 w') := by
  refine (known_any w).mono ?_
  rintro e w2 ⟨rfl, hb⟩
  exact ⟨_, rfl, rfl, hb, hC.trans hb⟩
/-- A text that is cut. -/
theorem str_cut (s : List UInt8) (k : Nat) : (str s).extract 0 k = str (s.take k) := by
  rw [Lib.extract_eq]
  simp [str]
end Go.Proofs.Ytphlfajkcbhpoaa
