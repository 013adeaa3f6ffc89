/-
  The walk of the law SumTurns: whatever bytes, place and turns it is given, it returns true.
-/
import Derived.Test.YtjokipdibbhmlaaParts
import Derived.Test.YtjokipdibbhmlaaBook
namespace Go.Proofs.Ytjokipdibbhmlaa.sumTurns
open Go.RowKit
set_option linter.unusedVariables false

set_option maxRecDepth 100000 in
theorem walk_few (p0 : Option Addr) (c0 : Nat) (l0 : List UInt8) (a1 a2 a3 a4 a5 : Int) (w : World) (h : l0.length < 4) :
    Calls Try.prog 5 #[.slice p0 l0.length c0, .int .i64 a1, .int .u8 a2, .int .u8 a3, .int .u8 a4, .int .u8 a5] w fun e w' => e = .returned (.bool true) ∧ Below w.heap.size w w' := by
  have t1 : decide ((l0.length : Int) < 4) = true := by simp; omega
  go_enter Try.func5, Try.ntmps5
  go_wp2_with fail
  refine (known_any _).mono ?_
  rintro e w4 ⟨rfl, hx⟩
  go_wp2
  go_ret
  exact ⟨rfl, hx⟩

set_option maxRecDepth 100000 in
theorem walk_many (p0 : Option Addr) (c0 : Nat) (l0 : List UInt8) (a1 a2 a3 a4 a5 : Int) (w : World) (h : 3000 < l0.length) (w0 : l0.length ≤ 140737488351232) :
    Calls Try.prog 5 #[.slice p0 l0.length c0, .int .i64 a1, .int .u8 a2, .int .u8 a3, .int .u8 a4, .int .u8 a5] w fun e w' => e = .returned (.bool true) ∧ Below w.heap.size w w' := by
  have t1 : decide ((l0.length : Int) < 4) = false := by simp; omega
  have t2 : decide ((3000 : Int) < (l0.length : Int)) = true := by simp; omega
  go_enter Try.func5, Try.ntmps5
  go_wp2_with fail
  refine (known_any _).mono ?_
  rintro e w4 ⟨rfl, hx⟩
  go_wp2
  go_ret
  exact ⟨rfl, hx⟩

theorem or_all (W X Y Z : UInt8) : bits .or .u8 (bits .or .u8 (bits .or .u8 (W.toNat : Int) (X.toNat : Int)) (Y.toNat : Int)) (Z.toNat : Int) = ((W.toNat ||| X.toNat ||| Y.toNat ||| Z.toNat : Nat) : Int) := by
  have hw := W.toNat_lt; have hx := X.toNat_lt; have hy := Y.toNat_lt; have hz := Z.toNat_lt
  have h1 := Nat.or_lt_two_pow (x := W.toNat) (y := X.toNat) (n := 8) (by omega) (by omega)
  have h2 := Nat.or_lt_two_pow (x := W.toNat ||| X.toNat) (y := Y.toNat) (n := 8) (by omega) (by omega)
  rw [I.or8 _ _ (by omega) (by omega), I.or8 _ _ (by omega) (by omega), I.or8 _ _ (by omega) (by omega)]

set_option maxRecDepth 100000 in
theorem walk_noughts (p0 : Option Addr) (c0 : Nat) (l0 : List UInt8) (a1 : Int) (W X Y Z : UInt8) (w : World) (h4 : 4 ≤ l0.length) (h3 : l0.length ≤ 3000) (h : W.toNat ||| X.toNat ||| Y.toNat ||| Z.toNat = 0) :
    Calls Try.prog 5 #[.slice p0 l0.length c0, .int .i64 a1, .int .u8 (W.toNat : Int), .int .u8 (X.toNat : Int), .int .u8 (Y.toNat : Int), .int .u8 (Z.toNat : Int)] w fun e w' => e = .returned (.bool true) ∧ Below w.heap.size w w' := by
  have t1 : decide ((l0.length : Int) < 4) = false := by simp; omega
  have t2 : decide ((3000 : Int) < (l0.length : Int)) = false := by simp; omega
  have ho := or_all W X Y Z
  rw [h] at ho
  clear h
  go_enter Try.func5, Try.ntmps5
  go_wp2_with fail
  refine (known_any _).mono ?_
  rintro e w4 ⟨rfl, hx⟩
  go_wp2
  go_ret
  exact ⟨rfl, hx⟩

/-- The four bytes when j of them are turned. -/
def mid (b0 b1 b2 b3 W X Y Z : UInt8) : Nat → List UInt8
  | 0 => [b0, b1, b2, b3]
  | 1 => [b0 ^^^ W, b1, b2, b3]
  | 2 => [b0 ^^^ W, b1 ^^^ X, b2, b3]
  | 3 => [b0 ^^^ W, b1 ^^^ X, b2 ^^^ Y, b3]
  | _ => [b0 ^^^ W, b1 ^^^ X, b2 ^^^ Y, b3 ^^^ Z]
theorem mid_len (b0 b1 b2 b3 W X Y Z : UInt8) (j : Nat) : (mid b0 b1 b2 b3 W X Y Z j).length = 4 := by
  unfold mid; split <;> rfl
/-- The bytes when j of the four are turned. -/
def tl (P R : List UInt8) (b0 b1 b2 b3 W X Y Z : UInt8) (j : Nat) : List UInt8 := P ++ mid b0 b1 b2 b3 W X Y Z j ++ R
theorem tl_len (P R : List UInt8) (b0 b1 b2 b3 W X Y Z : UInt8) (j : Nat) : (tl P R b0 b1 b2 b3 W X Y Z j).length = P.length + 4 + R.length := by
  simp [tl, mid_len]; omega
theorem mid_step (b0 b1 b2 b3 W X Y Z : UInt8) (j : Nat) (hj : j < 4) :
    (mid b0 b1 b2 b3 W X Y Z j).set j ((mid b0 b1 b2 b3 W X Y Z j).getD j 0 ^^^ [W, X, Y, Z].getD j 0) = mid b0 b1 b2 b3 W X Y Z (j + 1) := by
  match j, hj with
  | 0, _ => rfl
  | 1, _ => rfl
  | 2, _ => rfl
  | 3, _ => rfl
theorem tl_at (P R : List UInt8) (b0 b1 b2 b3 W X Y Z : UInt8) (j : Nat) (hj : j < 4) : (tl P R b0 b1 b2 b3 W X Y Z j).getD (P.length + j) 0 = (mid b0 b1 b2 b3 W X Y Z j).getD j 0 := by
  have hl := mid_len b0 b1 b2 b3 W X Y Z j
  simp only [tl, List.getD_eq_getElem?_getD]
  rw [List.append_assoc, List.getElem?_append_right (by omega), List.getElem?_append_left (by omega)]
  simp
theorem tl_step (P R : List UInt8) (b0 b1 b2 b3 W X Y Z : UInt8) (j : Nat) (hj : j < 4) (V : Int) (hV : V = (((tl P R b0 b1 b2 b3 W X Y Z j).getD (P.length + j) 0).toNat ^^^ ([W, X, Y, Z].getD j 0).toNat : Nat)) :
    (cs (tl P R b0 b1 b2 b3 W X Y Z j)).set (P.length + j) (.int .u8 V) = cs (tl P R b0 b1 b2 b3 W X Y Z (j + 1)) := by
  subst hV
  have hl := mid_len b0 b1 b2 b3 W X Y Z j
  have e : (tl P R b0 b1 b2 b3 W X Y Z j).set (P.length + j) ((tl P R b0 b1 b2 b3 W X Y Z j).getD (P.length + j) 0 ^^^ [W, X, Y, Z].getD j 0) = tl P R b0 b1 b2 b3 W X Y Z (j + 1) := by
    rw [tl_at P R b0 b1 b2 b3 W X Y Z j hj]
    show (P ++ mid b0 b1 b2 b3 W X Y Z j ++ R).set (P.length + j) _ = P ++ mid b0 b1 b2 b3 W X Y Z (j + 1) ++ R
    rw [← mid_step b0 b1 b2 b3 W X Y Z j hj, List.append_assoc, List.set_append_right _ _ (by omega), show P.length + j - P.length = j from by omega, List.set_append_left _ _ (by omega), List.append_assoc]
  rw [← e]
  simp only [cs, List.map_set, UInt8.toNat_xor]
theorem split4 (l : List UInt8) (K : Nat) (h : K + 4 ≤ l.length) : ∃ P R b0 b1 b2 b3, l = P ++ [b0, b1, b2, b3] ++ R ∧ P.length = K := by
  have h0 : K < l.length := by omega
  have h1 : K + 1 < l.length := by omega
  have h2 : K + 2 < l.length := by omega
  have h3 : K + 3 < l.length := by omega
  refine ⟨l.take K, l.drop (K + 4), l[K], l[K + 1], l[K + 2], l[K + 3], ?_, by simp; omega⟩
  have e0 := List.drop_eq_getElem_cons h0
  have e1 := List.drop_eq_getElem_cons h1
  have e2 := List.drop_eq_getElem_cons h2
  have e3 := List.drop_eq_getElem_cons h3
  have e : l.drop K = [l[K], l[K + 1], l[K + 2], l[K + 3]] ++ l.drop (K + 4) := by rw [e0, e1, e2, e3]; rfl
  rw [List.append_assoc, ← e, List.take_append_drop]
/-- A slice value that owns something names its block. -/
theorem Own_form {w : World} {base : Nat} {v : Value} {l : List UInt8} (h : Own w base v l) (hn : 0 < l.length) : ∃ g cap, v = .slice (some ⟨g, 0, none⟩) l.length cap ∧ base ≤ g ∧ g < w.heap.size ∧ l.length ≤ cap ∧ cap ≤ maxLen := by
  rcases h.2 with ⟨_, h0⟩ | ⟨g, cap, cur, hv, hb, hg, h1, h2, _⟩
  · omega
  · exact ⟨g, cap, hv, hb, (Array.getElem?_eq_some_iff.1 hg).1, h1, h2⟩

set_option maxRecDepth 100000 in
set_option maxHeartbeats 4000000 in
theorem walk_main (p0 : Option Addr) (c0 : Nat) (l0 : List UInt8) (a1 : Int) (W X Y Z : UInt8) (w : World) (b0 : Byt w p0 c0 l0) (w1 : -9223372036854775808 ≤ a1) (u1 : a1 ≤ 9223372036854775807) (h4 : 4 ≤ l0.length) (h3 : l0.length ≤ 3000) (h : W.toNat ||| X.toNat ||| Y.toNat ||| Z.toNat ≠ 0) :
    Calls Try.prog 5 #[.slice p0 l0.length c0, .int .i64 a1, .int .u8 (W.toNat : Int), .int .u8 (X.toNat : Int), .int .u8 (Y.toNat : Int), .int .u8 (Z.toNat : Int)] w fun e w' => e = .returned (.bool true) ∧ Below w.heap.size w w' := by
  have t1 : decide ((l0.length : Int) < 4) = false := by simp; omega
  have t2 : decide ((3000 : Int) < (l0.length : Int)) = false := by simp; omega
  have hzero : ¬ (W.toNat = 0 ∧ X.toNat = 0 ∧ Y.toNat = 0 ∧ Z.toNat = 0) := by
    rintro ⟨e1, e2, e3, e4⟩; rw [e1, e2, e3, e4] at h; exact h rfl
  have HZ : Hid (¬ (W.toNat = 0 ∧ X.toNat = 0 ∧ Y.toNat = 0 ∧ Z.toNat = 0)) := hzero
  clear hzero
  have ho := or_all W X Y Z
  obtain ⟨O, hO⟩ : ∃ O, W.toNat ||| X.toNat ||| Y.toNat ||| Z.toNat = O := ⟨_, rfl⟩
  rw [hO] at ho h
  have hOne : ((O : Int) == 0) = false := by simp; omega
  clear hO h
  have HB : Hid (Byt w p0 c0 l0) := b0
  clear b0
  go_enter Try.func5, Try.ntmps5
  go_wp2_with (first
    | (refine wpList_build_own rfl 37 rfl 0 [] rfl (by decide) (fun _ => by kernel_rfl) w.heap.size (Nat.le_refl _) ?_; intro g37 w37 ho37 hx37)
    | (at_builtin; refine wpList_append_byt rfl (.tmp 37) (.tmp 38) rfl w.heap.size _ [] rfl ho37 _ _ _ l0 rfl rfl (HB.out.below hx37) (by simp; omega) (Ex.size hx37) ?_; intro v39 w39 ho39 hg39; have X39 : Ex w w39 := step_below0 hx37 (Ex.size hx37) ho37 hg39; clear hg39; rw [List.nil_append] at ho39))
  refine (within_any a1 _ _ w1 u1 (by omega) (by omega)).mono ?_
  rintro e wq ⟨K, hK, rfl, hw⟩
  have hw' := hw.symm
  clear hw
  subst hw'
  obtain ⟨P, R, q0, q1, q2, q3, hl, hP⟩ := split4 l0 K (by omega)
  have hpos : 0 < l0.length := by omega
  obtain ⟨g, cap, rfl, hgb, hgs, hcap, hcapm⟩ := Own_form ho39 hpos
  subst hP
  obtain ⟨T, hT⟩ : ∃ T : Nat → List UInt8, T = tl P R q0 q1 q2 q3 W X Y Z := ⟨_, rfl⟩
  have hT0 : T 0 = l0 := by rw [hT, hl]; rfl
  have hTl : ∀ j, (T j).length = l0.length := fun j => by rw [hT, hl, tl_len]; simp; omega
  have hTs : ∀ j, j < 4 → ∀ V : Int, V = (M.bAt (T j) (P.length + j) ^^^ M.bAt [W, X, Y, Z] j : Nat) → (cs (T j)).set (P.length + j) (.int .u8 V) = cs (T (j + 1)) := fun j hj V hV => by
    rw [hT]
    rw [hT] at hV
    exact tl_step P R q0 q1 q2 q3 W X Y Z j hj V hV
  have hne : S.crc (T 4) ≠ S.crc l0 := by
    rw [hT, hl]
    exact S.crc_turned P R q0 q1 q2 q3 W X Y Z HZ.out
  obtain ⟨ct, ect⟩ : ∃ c, c = S.crc (T 4) := ⟨_, rfl⟩
  obtain ⟨cb, ecb⟩ : ∃ c, c = S.crc l0 := ⟨_, rfl⟩
  have hneq : ((ct : Int) != (cb : Int)) = true := by
    rw [← ect, ← ecb] at hne
    simp; omega
  obtain ⟨F0, eF0⟩ : ∃ c, c = S.fnv l0 := ⟨_, rfl⟩
  obtain ⟨F1, eF1⟩ : ∃ c, c = S.fnv (l0 ++ [W]) := ⟨_, rfl⟩
  have hF0l : F0 < 18446744073709551616 := by rw [eF0]; exact S.fnv_lt _
  have hmul : IntKind.u64.wrap (bits .xor .u64 (F0 : Int) (W.toNat : Int) * 1099511628211) = (F1 : Int) := by
    rw [I.w64, I.fnv_num F0 W.toNat W hF0l rfl, eF1, S.fnv_snoc, ← eF0]
  have HMul : Hid (IntKind.u64.wrap (bits .xor .u64 (F0 : Int) (W.toNat : Int) * 1099511628211) = (F1 : Int)) := hmul
  have HT0 : Hid (T 0 = l0) := hT0
  have HTl : Hid (∀ j, (T j).length = l0.length) := hTl
  have HTs : Hid (∀ j, j < 4 → ∀ V : Int, V = (M.bAt (T j) (P.length + j) ^^^ M.bAt [W, X, Y, Z] j : Nat) → (cs (T j)).set (P.length + j) (.int .u8 V) = cs (T (j + 1))) := hTs
  have Hct : Hid (ct = S.crc (T 4)) := ect
  have Hcb : Hid (cb = S.crc l0) := ecb
  have HF0 : Hid (F0 = S.fnv l0) := eF0
  have HF1 : Hid (F1 = S.fnv (l0 ++ [W])) := eF1
  have HO39 : Hid (Own w39 w.heap.size (Value.slice (some ⟨g, 0, none⟩) l0.length cap) l0) := ho39
  clear hT0 hTl hTs hne ect ecb eF0 eF1 hmul hl hT ho39 ho37 hx37 HZ
  go_wp2_with fail
  obtain ⟨wA, hwA⟩ : ∃ wA, w39.alloc (.cells #[.int .u8 (W.toNat : Int), .int .u8 (X.toNat : Int), .int .u8 (Y.toNat : Int), .int .u8 (Z.toNat : Int)] 5) = wA := ⟨_, rfl⟩
  have hQA : Byt wA (some ⟨w39.heap.size, 0, none⟩) 4 [W, X, Y, Z] := by rw [← hwA]; exact Byt.laid w39 [W, X, Y, Z] (by simp)
  have hOA : Own wA w.heap.size (Value.slice (some ⟨g, 0, none⟩) l0.length cap) (T 0) := by
    rw [← hwA, HT0.out]; exact World.ownsRow.alloc HO39.out _
  have hXA : Below w.heap.size w wA := by rw [← hwA]; exact Below.alloc X39 (Ex.size X39) _
  rw [hwA]
  clear hwA
  generalize eg : w39.heap.size = gq at hQA hgs ⊢
  go_loopw [51] (fun i wr => ∃ j : Nat, j ≤ 4 ∧ i = .int .i64 j ∧ Hid (Own wr w.heap.size (Value.slice (some ⟨g, 0, none⟩) l0.length cap) (T j)) ∧ Hid (Byt wr (some ⟨gq, 0, none⟩) 4 [W, X, Y, Z]) ∧ Hid (Below w.heap.size w wr)) (fun i _ => 4 - (intOf i).toNat)
  case atStart => exact ⟨0, by omega, rfl, hOA, hQA, hXA⟩
  case round =>
    obtain ⟨j, hj, rfl, HOw, HQ, HBl⟩ := hrel
    clear hOA hQA hXA
    by_cases hlt : j < 4
    · have ho' : wr.ownsRow w.heap.size 5 1 (.slice (some ⟨g, 0, none⟩) l0.length cap) l0.length (cs (T j)) := by
        have h := HOw.out
        unfold Own at h
        rw [HTl.out j] at h
        exact h
      have hlT := HTl.out j
      have hcC : wr.cell? ⟨g, P.length + j, none⟩ = some (.int .u8 (M.bAt (T j) (P.length + j))) := by
        rw [World.ownsRow.cellAt ho' (P.length + j) (by omega)]
        have : P.length + j < (T j).length := by omega
        simp [cs, M.bAt, this]
      have hfC : wr.frozen? ⟨g, P.length + j, none⟩ = false := World.ownsRow.frozenAt ho' _
      have hcQ : wr.cell? ⟨gq, j, none⟩ = some (.int .u8 (M.bAt [W, X, Y, Z] j)) := by
        obtain ⟨b', off', hbo, hc⟩ := HQ.out.2.2.2 j (by simpa using hlt)
        simp at hbo
        obtain ⟨rfl, rfl⟩ := hbo
        rw [Nat.zero_add] at hc
        exact hc
      have hnew : ∀ V : Int, V = (M.bAt (T j) (P.length + j) ^^^ M.bAt [W, X, Y, Z] j : Nat) → Own (wr.setCell ⟨g, P.length + j, none⟩ (.int .u8 V)) w.heap.size (Value.slice (some ⟨g, 0, none⟩) l0.length cap) (T (j + 1)) := by
        intro V hV
        have h := (World.ownsRow.stored ho' (P.length + j) (.int .u8 V)).1
        rw [HTs.out j hlt V hV] at h
        show World.ownsRow _ _ _ _ _ _ _
        rw [HTl.out (j + 1)]
        exact h
      have hxq := I.xor8 (M.bAt (T j) (P.length + j) : Int) (M.bAt [W, X, Y, Z] j : Int) _ _ rfl rfl (M.bAt_lt _ _) (M.bAt_lt _ _)
      have HNew : Hid (∀ V : Int, V = (M.bAt (T j) (P.length + j) ^^^ M.bAt [W, X, Y, Z] j : Nat) → Own (wr.setCell ⟨g, P.length + j, none⟩ (.int .u8 V)) w.heap.size (Value.slice (some ⟨g, 0, none⟩) l0.length cap) (T (j + 1))) := hnew
      have HXq : Hid (bits .xor .u8 (M.bAt (T j) (P.length + j) : Int) (M.bAt [W, X, Y, Z] j : Int) = ((M.bAt (T j) (P.length + j) ^^^ M.bAt [W, X, Y, Z] j : Nat) : Int)) := hxq
      have hi1 : (P.length : Int) + (j : Int) < (l0.length : Int) := by omega
      have hi2 : (j : Int) < 4 := by omega
      clear hnew hxq ho' hlT
      go_wp2_with fail
      go_roundw
      case rel => exact ⟨j + 1, by omega, by go_num, HNew.out _ HXq.out, (by
        obtain ⟨k1, k2, k3, k4⟩ := HQ.out
        refine ⟨k1, k2, k3, fun i hi => ?_⟩
        obtain ⟨b', off', hbo, hc⟩ := k4 i hi
        simp at hbo
        obtain ⟨rfl, rfl⟩ := hbo
        exact ⟨_, _, rfl, (cell_other wr _ (by omega)).trans hc⟩ : Byt _ _ _ _), HBl.out.setCell (p := ⟨g, P.length + j, none⟩) hgb _⟩
      case measure => simp [intOf]; omega
    · obtain rfl : j = 4 := by omega
      have hBT : Byt wr (some ⟨g, 0, none⟩) cap (T 4) := by
        obtain ⟨a', cap', hv, hb⟩ := HOw.out.byt
        simp only [Value.slice.injEq] at hv
        obtain ⟨rfl, _, rfl⟩ := hv
        exact hb
      have hBb : Byt wr p0 c0 l0 := HB.out.below HBl.out
      have HBT : Hid (Byt wr (some ⟨g, 0, none⟩) cap (T 4)) := hBT
      have HBb : Hid (Byt wr p0 c0 l0) := hBb
      have hr := run_str (n := l0.length) hBb rfl
      have hr2 : (convert 27 9 (.slice (some ⟨wr.heap.size, 0, none⟩) 1 1)).run Try.prog (wr.alloc (.cells #[.int .u8 (W.toNat : Int)] 5)) = .ok (.string (str [W])) (wr.alloc (.cells #[.int .u8 (W.toNat : Int)] 5)) :=
        run_str (n := 1) (Byt.laid wr [W] (by simp)) rfl
      have hcat : str l0 ++ str [W] = str (l0 ++ [W]) := by
        apply ByteArray.ext
        simp [str, ByteArray.data_append]
      have hWlt := W.toNat_lt
      have hs1 : (str l0).size = l0.length := str_size l0
      have hs2 : (str [W]).size = 1 := str_size [W]
      have hs3 : ¬ (9223372036854775807 : Int) < (l0.length : Int) + 1 := by omega
      have hxa : Ex wr (wr.alloc (.cells #[.int .u8 (W.toNat : Int)] 5)) := (Below.refl _ _).alloc (Nat.le_refl _) _
      clear hBT hBb HQ HOw
      go_wp2_with fail
      refine (crc_is (some ⟨g, 0, none⟩) _ cap (T 4) ct _ HBT.out (HTl.out 4).symm Hct.out.symm).mono ?_
      rintro e wq ⟨rfl, hw⟩
      have hw' := hw.symm; clear hw; subst hw'
      go_wp2_with fail
      refine (crc_is p0 _ c0 l0 cb _ HBb.out rfl Hcb.out.symm).mono ?_
      rintro e wq ⟨rfl, hw⟩
      have hw' := hw.symm; clear hw; subst hw'
      go_wp2_with fail
      refine (fnv_is _ (l0 ++ [W]) F1 _ rfl (by simp; omega) HF1.out.symm).mono ?_
      rintro e wq ⟨rfl, hw⟩
      have hw' := hw.symm; clear hw; subst hw'
      go_wp2_with fail
      refine (fnv_is _ l0 F0 _ rfl (by omega) HF0.out.symm).mono ?_
      rintro e wq ⟨rfl, hw⟩
      have hw' := hw.symm; clear hw; subst hw'
      have hmul := HMul.out
      have heq : ((F1 : Int) == (F1 : Int)) = true := by simp
      go_wp2_with fail
      refine (known_any _).mono ?_
      rintro e w7 ⟨rfl, hx⟩
      clear hmul
      go_wp2
      go_ret
      exact ⟨rfl, Ex.trans HBl.out (Ex.trans hxa hx)⟩

theorem walk (p0 : Option Addr) (c0 : Nat) (l0 : List UInt8) (a1 : Int) (a2 : Int) (a3 : Int) (a4 : Int) (a5 : Int) (w : World) (b0 : Byt w p0 c0 l0) (w0 : l0.length ≤ 140737488351232) (w1 : -9223372036854775808 ≤ a1 ∧ a1 ≤ 9223372036854775807) (w2 : 0 ≤ a2 ∧ a2 ≤ 255) (w3 : 0 ≤ a3 ∧ a3 ≤ 255) (w4 : 0 ≤ a4 ∧ a4 ≤ 255) (w5 : 0 ≤ a5 ∧ a5 ≤ 255) :
    Calls Try.prog 5 #[.slice p0 l0.length c0, .int .i64 a1, .int .u8 a2, .int .u8 a3, .int .u8 a4, .int .u8 a5] w fun e w' => e = .returned (.bool true) ∧ Below w.heap.size w w' := by
  have hbyte : ∀ a : Int, 0 ≤ a ∧ a ≤ 255 → ∃ W : UInt8, a = (W.toNat : Int) := fun a h => ⟨UInt8.ofNat a.toNat, by simp; omega⟩
  obtain ⟨W, rfl⟩ := hbyte a2 w2
  obtain ⟨X, rfl⟩ := hbyte a3 w3
  obtain ⟨Y, rfl⟩ := hbyte a4 w4
  obtain ⟨Z, rfl⟩ := hbyte a5 w5
  by_cases h1 : l0.length < 4
  · exact walk_few p0 c0 l0 a1 _ _ _ _ w h1
  · by_cases h2 : 3000 < l0.length
    · exact walk_many p0 c0 l0 a1 _ _ _ _ w h2 w0
    · by_cases h3 : W.toNat ||| X.toNat ||| Y.toNat ||| Z.toNat = 0
      · exact walk_noughts p0 c0 l0 a1 W X Y Z w (by omega) (by omega) h3
      · exact walk_main p0 c0 l0 a1 W X Y Z w b0 w1.1 w1.2 (by omega) (by omega) h3
end Go.Proofs.Ytjokipdibbhmlaa.sumTurns
