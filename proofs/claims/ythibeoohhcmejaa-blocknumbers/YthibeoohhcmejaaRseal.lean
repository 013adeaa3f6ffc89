/-
  The document's own four, get and Seal (layer 6) over the program.
-/
import Derived.Test.YthibeoohhcmejaaCrc
import Derived.Test.YthibeoohhcmejaaBlock
import Derived.Test.YthibeoohhcmejaaBook
import Derived.Test.YthibeoohhcmejaaKinds
namespace Go.Proofs.Ythibeoohhcmejaa
open Go.RowKit
set_option linter.unusedVariables false

namespace I
theorem or32 (A B : Int) (a b k : Nat) (hA : A = a) (hB : B = ((b * 2 ^ k : Nat) : Int)) (ha : a < 2 ^ k) (hb : b * 2 ^ k < 4294967296 ∧ 2 ^ k ≤ 4294967296) : bits .or .u32 A B = ((a + b * 2 ^ k : Nat) : Int) := by
  subst hA; subst hB
  rw [(bits_nat .u32 32 (by decide) wraps32 a (b * 2 ^ k) (by omega) (by omega)).2]
  have h := Nat.two_pow_add_eq_or_of_lt ha b
  rw [Nat.or_comm, Nat.mul_comm b, ← h, Nat.add_comm]
theorem xor32m (x : Int) (h : 0 ≤ x) (h2 : x < 4294967296) : bits .xor .u32 IntKind.u32.max x = 4294967295 - x := by
  have e : (BitVec.ofInt 32 IntKind.u32.max ^^^ BitVec.ofInt 32 x) = ~~~(BitVec.ofInt 32 x) := by
    rw [show BitVec.ofInt 32 IntKind.u32.max = BitVec.allOnes 32 from by decide, BitVec.allOnes_xor]
  show IntKind.u32.wrap ((BitVec.ofInt 32 IntKind.u32.max ^^^ BitVec.ofInt 32 x).toNat : Int) = _
  rw [e, BitVec.toNat_not, w32]
  have t : ((BitVec.ofInt 32 x).toNat : Int) = x % 4294967296 := by
    rw [BitVec.toNat_ofInt]; simp; omega
  have l := (BitVec.ofInt 32 x).isLt
  omega
end I
theorem own_none (w : World) (base : Nat) : Own w base (.slice none 0 0) [] := ⟨by simp [cs], .inl ⟨rfl, rfl⟩⟩
theorem Own.laid (w : World) (L : List UInt8) (n : Nat) (hn : n = L.length) (hm : n ≤ 1000) : Own (w.alloc (.cells (cs L).toArray 5)) w.heap.size (.slice (some ⟨w.heap.size, 0, none⟩) n n) L := by
  show World.ownsRow _ _ _ _ _ _ _
  rw [← hn]
  refine ⟨by rw [cs_len, hn]; omega, .inr ⟨w.heap.size, n, _, rfl, Nat.le_refl _, heap_alloc_new w _, Nat.le_refl _, ?_, by simp [cs_len, hn], ?_⟩⟩
  · unfold maxLen; omega
  · rw [Nat.mul_one, List.take_of_length_le (by simp [cs_len, hn])]

set_option maxRecDepth 100000 in
theorem rfour_any (n : Nat) (w : World) (hn : n < 4294967296) :
    Calls Try.prog 26 #[.int .u32 n] w fun e w' => ∃ v, e = .returned v ∧ Own w' w.heap.size v (K.four n) ∧ Ex w w' := by
  go_enter Try.func26, Try.ntmps26
  go_wp2
  go_ret
  refine ⟨_, rfl, ?_, (Below.refl _ _).alloc (Nat.le_refl _) _⟩
  have e : (#[Value.int IntKind.u8 (↑n % 256), Value.int IntKind.u8 (↑n / 256 % 256), Value.int IntKind.u8 (↑n / 65536 % 256), Value.int IntKind.u8 (↑n / 16777216)] : Array Value) = (cs (K.four n)).toArray := by
    have e1 : (((n / 16777216 % 256 : Nat)) : Int) = (n : Int) / 16777216 := by omega
    simp only [cs, K.four, List.map_cons, List.map_nil, K.ofNat_toNat, e1]
    rfl
  rw [e]
  exact Own.laid w (K.four n) 4 rfl (by decide)
set_option maxRecDepth 100000 in
theorem rget_any (a : Option Addr) (cap : Nat) (l : List UInt8) (w : World) (hB : Byt w a cap l) (hl : 4 ≤ l.length) :
    Calls Try.prog 28 #[.slice a l.length cap] w fun e w' => e = .returned (.int .u32 (K.num l)) ∧ Ex w w' := by
  obtain ⟨h1, h2, h3, h4⟩ := hB
  unfold maxLen at h2
  obtain ⟨b, off, rfl, c0⟩ := h4 0 (by omega)
  obtain ⟨_, _, e1, c1⟩ := h4 1 (by omega)
  obtain ⟨_, _, e2, c2⟩ := h4 2 (by omega)
  obtain ⟨_, _, e3, c3⟩ := h4 3 (by omega)
  simp only [Option.some.injEq, Addr.mk.injEq, and_true] at e1 e2 e3
  obtain ⟨rfl, rfl⟩ := e1
  obtain ⟨rfl, rfl⟩ := e2
  obtain ⟨rfl, rfl⟩ := e3
  have b0 := M.bAt_lt l 0
  have b1 := M.bAt_lt l 1
  have b2 := M.bAt_lt l 2
  have b3 := M.bAt_lt l 3
  have i0 : (0 : Int) < (l.length : Int) := by omega
  have i1 : (1 : Int) < (l.length : Int) := by omega
  have i2 : (2 : Int) < (l.length : Int) := by omega
  have i3 : (3 : Int) < (l.length : Int) := by omega
  have c0' : w.cell? ⟨b, off, none⟩ = some (.int .u8 (M.bAt l 0)) := c0
  clear h3 h4 c0
  go_enter Try.func28, Try.ntmps28
  go_wp2_with fail
  go_quiet (fail)
  go_wp2
  go_ret
  refine ⟨I.ret_int ?_, Ex.drewN _ _⟩
  rw [I.or32 _ _ (M.bAt l 0) (M.bAt l 1) 8 rfl (by omega) (by omega) (by omega), I.or32 _ _ _ (M.bAt l 2) 16 rfl (by omega) (by omega) (by omega), I.or32 _ _ _ (M.bAt l 3) 24 rfl (by omega) (by omega) (by omega)]
  show _ = ((M.bAt l 0 + 256 * M.bAt l 1 + 65536 * M.bAt l 2 + 16777216 * M.bAt l 3 : Nat) : Int)
  omega
theorem rget_is (a : Option Addr) (n cap : Nat) (l : List UInt8) (w : World) (r : Nat) (hr : K.num l = r) (hB : Byt w a cap l) (hn : n = l.length) (hl : 4 ≤ l.length) :
    Calls Try.prog 28 #[.slice a n cap] w fun e w' => e = .returned (.int .u32 r) ∧ Ex w w' := by
  subst hr; subst hn; exact rget_any a cap l w hB hl
theorem rfour_is (m : Int) (n : Nat) (w : World) (hm : m = n) (hn : n < 4294967296) :
    Calls Try.prog 26 #[.int .u32 m] w fun e w' => ∃ v, e = .returned v ∧ Own w' w.heap.size v (K.four n) ∧ Ex w w' := by
  subst hm; exact rfour_any n w hn
theorem rcrc_is (a : Option Addr) (n cap : Nat) (l : List UInt8) (w : World) (r : Nat) (hr : S.crc l = r) (hB : Byt w a cap l) (hn : n = l.length) :
    Calls Try.prog 27 #[.slice a n cap] w fun e w' => e = .returned (.int .u32 r) ∧ w' = w := by
  subst hr; subst hn; exact rcrc_any a cap l w hB

set_option maxRecDepth 100000 in
theorem rseal_any (a : Option Addr) (cap : Nat) (l : List UInt8) (w : World) (hB : Byt w a cap l) (hl : l.length ≤ 1048576) :
    Calls Try.prog 17 #[.slice a l.length cap] w fun e w' => ∃ v, e = .returned (.tuple #[v, .int .i64 0]) ∧ Own w' w.heap.size v (K.frm l) ∧ Ex w w' := by
  obtain ⟨base, hbase⟩ : ∃ base, base = w.heap.size := ⟨_, rfl⟩
  have HBa : Hid (base = w.heap.size) := hbase
  have HB : Hid (Byt w a cap l) := hB
  have hcm := hB.2.1
  have hcl := hB.1
  unfold maxLen at hcm
  have t1 : decide (1048576 < (l.length : Int)) = false := by simp; omega
  have hx := I.xor32m (l.length : Int) (by omega) (by omega)
  have hcr := S.crc_lt l
  clear hB hbase
  go_enter Try.func17, Try.ntmps17
  go_wp2_with fail
  refine (rfour_is _ l.length _ (by first | rfl | omega) (by omega)).mono ?_
  rintro e w1 ⟨v1, rfl, ho1, hx1⟩
  go_wp2_with fail
  refine (rfour_is _ (4294967295 - l.length) _ (by first | omega | (rw [hx]; omega)) (by omega)).mono ?_
  rintro e w2 ⟨v2, rfl, ho2, hx2⟩
  obtain ⟨p2, c2, rfl, hb2⟩ := ho2.isByt
  have ho1' := (ho1.later hx2).mono (Nat.le_of_eq HBa.out)
  have hs2 : base ≤ w2.heap.size := by rw [HBa.out]; exact Nat.le_trans hx1.size hx2.size
  have hb02 : Below base w w2 := by rw [HBa.out]; exact hx1.trans hx2
  clear ho1 ho2
  go_wp2_with (first
    | (at_builtin; refine wpList_append_byt rfl (.tmp 13) (.tmp 16) rfl base _ (K.four l.length) rfl ho1' p2 _ c2 (K.four (4294967295 - l.length)) rfl rfl hb2 (by simp [K.four_len]) hs2 ?_; intro v3 w3 ho3 hg3; have hb3 : Below base w w3 := step_below0 hb02 hs2 ho1' hg3; clear hg3; have hx3 : Ex w w3 := (by rw [HBa.out] at hb3; exact hb3))
    | (at_builtin; refine wpList_append_byt rfl (.tmp 18) (.tmp 19) rfl base _ (K.four l.length ++ K.four (4294967295 - l.length)) rfl ho3 a _ cap l rfl rfl (HB.out.below hx3) (by simp [K.four_len]; omega) (by rw [HBa.out]; exact hx3.size) ?_; intro v4 w4 ho4 hg4; have hb4 : Below base w w4 := step_below0 hb3 (by rw [HBa.out]; exact hx3.size) ho3 hg4; clear hg4; have hx4 : Ex w w4 := (by rw [HBa.out] at hb4; exact hb4)))
  refine (rcrc_is a _ cap l _ (S.crc l) rfl (HB.out.below hx4) rfl).mono ?_
  rintro e wq ⟨rfl, hw⟩
  have hw' := hw.symm; clear hw; subst hw'
  go_wp2_with fail
  refine (rfour_is _ (S.crc l) _ rfl hcr).mono ?_
  rintro e w5 ⟨v5, rfl, ho5, hx5⟩
  obtain ⟨p5, c5, rfl, hb5⟩ := ho5.isByt
  have ho4' := ho4.later hx5
  have hs5 : base ≤ w5.heap.size := by rw [HBa.out]; exact (hx4.trans hx5).size
  have hb05 : Below base w w5 := by rw [HBa.out]; exact hx4.trans hx5
  go_wp2_with (at_builtin; refine wpList_append_byt rfl (.tmp 21) (.tmp 24) rfl base _ (K.four l.length ++ K.four (4294967295 - l.length) ++ l) rfl ho4' p5 _ c5 (K.four (S.crc l)) rfl rfl hb5 (by simp [K.four_len]; omega) hs5 ?_; intro v6 w6 ho6 hg6; have hb6 : Below base w w6 := step_below0 hb05 hs5 ho4' hg6; clear hg6)
  go_ret2
  refine ⟨_, rfl, ?_, by rw [HBa.out] at hb6; exact hb6⟩
  rw [← HBa.out]
  have e : K.frm l = K.four l.length ++ K.four (4294967295 - l.length) ++ l ++ K.four (S.crc l) := by simp [K.frm]
  rw [e]
  exact ho6
theorem rseal_long (a : Option Addr) (cap : Nat) (l : List UInt8) (w : World) (hB : Byt w a cap l) (hl : 1048576 < l.length) :
    Calls Try.prog 17 #[.slice a l.length cap] w fun e w' => e = .returned (.tuple #[.slice none 0 0, .int .i64 3]) ∧ Ex w w' := by
  have hcm := hB.2.1
  have hcl := hB.1
  unfold maxLen at hcm
  have t1 : decide (1048576 < (l.length : Int)) = true := by simp; omega
  clear hB
  go_enter Try.func17, Try.ntmps17
  go_wp2
  go_ret2
  exact ⟨rfl, Ex.refl _⟩
end Go.Proofs.Ythibeoohhcmejaa
