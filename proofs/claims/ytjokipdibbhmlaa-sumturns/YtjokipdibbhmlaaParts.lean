/-
  A row of bytes that is filled place by place; rows that are laid one upon the other.
-/
import Derived.Test.YtjokipdibbhmlaaKnown
namespace Go.Proofs.Ytjokipdibbhmlaa
open Go.RowKit
set_option linter.unusedVariables false

/-- What stands when k places are filled. -/
def part (F : List UInt8) (k : Nat) : List UInt8 := F.take k ++ List.replicate (F.length - k) 0
theorem part_len (F : List UInt8) (k : Nat) (h : k ≤ F.length) : (part F k).length = F.length := by simp [part]; omega
theorem part_start (F : List UInt8) : part F 0 = List.replicate F.length 0 := by simp [part]
theorem part_end (F : List UInt8) : part F F.length = F := by simp [part]
theorem part_set (F : List UInt8) (k : Nat) (h : k < F.length) : (part F k).set k F[k] = part F (k + 1) := by
  apply List.ext_getElem
  · simp [part]; omega
  · intro i h1 h2
    simp only [part, List.length_set, List.length_append, List.length_take, List.length_replicate] at h1
    rw [List.getElem_set]
    by_cases hi : k = i
    · subst hi
      rw [if_pos rfl]
      simp [part, List.getElem_append, List.getElem_take]
      omega
    · rw [if_neg hi]
      simp only [part, List.getElem_append, List.length_take]
      by_cases hlt : i < k
      · rw [dif_pos (by omega), dif_pos (by omega)]; simp
      · rw [dif_neg (by omega), dif_neg (by omega)]; simp
theorem cs_set (F : List UInt8) (k : Nat) (h : k < F.length) : (cs (part F k)).set k (.int .u8 (M.bAt F k)) = cs (part F (k + 1)) := by
  rw [← part_set F k h]
  simp [cs, M.bAt, h, List.map_set]
theorem row_step {w : World} {g k : Nat} {F : List UInt8} {X : Int} (hg : w.heap[g]? = some (.cells (cs (part F k)).toArray 5 (0, 0))) (hX : X = M.bAt F k) (hk : k < F.length) :
    (w.setCell ⟨g, k, none⟩ (.int .u8 X)).heap[g]? = some (.cells (cs (part F (k + 1))).toArray 5 (0, 0)) := by
  subst hX
  rw [heap_setCell_same w g k _ 5 _ hg, List.setIfInBounds_toArray, cs_set F k hk]
theorem row_other {w : World} {g h k : Nat} {v : Value} {o : Obj} (hg : w.heap[g]? = some o) (hne : g ≠ h) : (w.setCell ⟨h, k, none⟩ v).heap[g]? = some o := by
  rw [heap_setCell_other w _ g v (by simpa using hne)]; exact hg
theorem cell_other (w : World) {g q k o : Nat} (v : Value) (hne : q ≠ g) : (w.setCell ⟨g, k, none⟩ v).cell? ⟨q, o, none⟩ = w.cell? ⟨q, o, none⟩ :=
  World.cell?_setCell_other (w := w) _ _ _ (fun h => hne (congrArg Addr.block h).symm)
theorem row_cell {w : World} {g k : Nat} {l : List UInt8} (hg : w.heap[g]? = some (.cells (cs l).toArray 5 (0, 0))) (hk : k < l.length) : w.cell? ⟨g, k, none⟩ = some (.int .u8 (M.bAt l k)) := by
  rw [cell_of_row w g k _ 5 (0, 0) hg]
  simp [cs, M.bAt, hk]
theorem row_byt {w : World} {g n : Nat} {l : List UInt8} (hg : w.heap[g]? = some (.cells (cs l).toArray 5 (0, 0))) (hn : n = l.length) (hm : n ≤ 140737488355328) : Byt w (some ⟨g, 0, none⟩) n l := by
  refine ⟨by omega, by unfold maxLen; omega, by simp, fun i hi => ⟨g, 0, rfl, ?_⟩⟩
  rw [Nat.zero_add]
  exact row_cell hg hi
theorem bAt_part (F : List UInt8) (k : Nat) (h : k < F.length) : M.bAt (part F (k + 1)) k = M.bAt F k := by
  simp only [M.bAt, part, List.getD_eq_getElem?_getD]
  rw [List.getElem?_append_left (by simp; omega)]
  simp
theorem bAt_mix : ∀ (l m : List UInt8) (k : Nat), k < l.length → k < m.length → M.bAt (S.mix l m) k = M.bAt l k ^^^ M.bAt m k
  | [], _, _, h, _ => by simp at h
  | _ :: _, [], _, _, h => by simp at h
  | a :: r, b :: s, 0, _, _ => by simp [M.bAt, S.mix]
  | a :: r, b :: s, k + 1, h, h2 => by
    have ih := bAt_mix r s k (by simpa using h) (by simpa using h2)
    simpa [M.bAt, S.mix] using ih
theorem bAt_take (l : List UInt8) (n k : Nat) (h : k < n) : M.bAt (l.take n) k = M.bAt l k := by
  simp [M.bAt, h]
/-- The bytes x, x + 1, x + 2 .. -/
def rise (x n : Nat) : List UInt8 := (List.range n).map fun i => UInt8.ofNat (x + i)
theorem rise_len (x n : Nat) : (rise x n).length = n := by simp [rise]
theorem rise_at (x n k : Nat) (h : k < n) : M.bAt (rise x n) k = (x + k) % 256 := by
  simp [M.bAt, rise, h]
theorem xor3 (a b c : Nat) (ha : a < 256) (hb : b < 256) (hc : c < 256) : bits .xor .u8 (bits .xor .u8 (a : Int) (b : Int)) (c : Int) = ((a ^^^ b ^^^ c : Nat) : Int) := by
  have h := Nat.xor_lt_two_pow (x := a) (y := b) (n := 8) (by omega) (by omega)
  rw [I.xor8 _ _ a b rfl rfl ha hb, I.xor8 _ _ (a ^^^ b) c rfl rfl (by omega) hc]
end Go.Proofs.Ytjokipdibbhmlaa
