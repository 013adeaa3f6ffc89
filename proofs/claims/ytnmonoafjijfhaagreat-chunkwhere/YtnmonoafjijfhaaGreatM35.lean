/-
  The landed join: two rows that are in order into one, in place of a part of a third.
-/
import Derived.Test.YtnmonoafjijfhaaGreatM33
import Derived.Test.YtnmonoafjijfhaaGreatM34
import Derived.Test.YtnmonoafjijfhaaGreatM02
namespace Go.Proofs.YtnmonoafjijfhaaGreat
open Go.RowKit
set_option linter.unusedVariables false

theorem set_mid {α : Type} (L Z : List α) (p i : Nat) (x : α) (hz : Z.length = i) (hp : p + i < L.length) : (L.take p ++ Z ++ L.drop (p + i)).set (p + i) x = L.take p ++ (Z ++ [x]) ++ L.drop (p + (i + 1)) := by
  have h1 : (L.take p ++ Z).length = p + i := by simp; omega
  rw [List.set_append_right _ _ (by omega), h1, Nat.sub_self, List.drop_eq_getElem_cons hp, List.set_cons_zero]
  simp [Nat.add_assoc]
theorem drew_grown {w wr : World} {row : Option Nat} (h : w.grownBy wr row) : w.grownBy wr.drew row := ⟨h.os, h.tape, h.output, h.size, h.block⟩
theorem drewN_heap (w : World) : ∀ n, (w.drewN n).heap = w.heap
  | 0 => rfl
  | n + 1 => drewN_heap w n
theorem drewN_grown {w wr : World} {row : Option Nat} (h : w.grownBy wr row) : ∀ n, w.grownBy (wr.drewN n) row
  | 0 => h
  | n + 1 => drew_grown (drewN_grown h n)
theorem set_grown {w wr : World} {g k : Nat} (h : w.grownBy wr (some g)) (v : Value) : w.grownBy (wr.setCell ⟨g, k, none⟩ v) (some g) :=
  h.trans ⟨rfl, rfl, rfl, by simp [World.setCell], fun j hj hne => Below.heap_setCell _ _ _ _ (by simpa using hne)⟩

set_option maxRecDepth 100000 in
set_option maxHeartbeats 4000000 in
theorem join_is (gT p n capO : Nat) (Tt : List (List UInt8)) (aA : Option Addr) (nA cA : Nat) (A : List (List UInt8)) (aB : Option Addr) (nB cB : Nat) (B : List (List UInt8)) (w : World)
    (hT : RowAt st 9 w gT Tt) (hn : n = A.length + B.length) (hp : p + n ≤ Tt.length) (h5 : Tt.length ≤ 70000) (hnA : nA = A.length) (hnB : nB = B.length) (hA : Rd st w aA cA A) (hB : Rd st w aB cB B) (fA : aA.map (·.block) ≠ some gT) (fB : aB.map (·.block) ≠ some gT) (hO : n ≤ capO) (hO2 : capO ≤ maxLen)
    (G : List (List UInt8)) (hG : T.mg (A.length + B.length) A B = G) :
    Calls Tryz.prog 107 #[.slice (some ⟨gT, p, none⟩) n capO, .slice aA nA cA, .slice aB nB cB] w fun e w' => e = .returned (.tuple #[]) ∧ RowAt st 9 w' gT (Tt.take p ++ G ++ Tt.drop (p + n)) ∧ w.grownBy w' (some gT) := by
  unfold maxLen at hO2
  have HN : Hid (n = A.length + B.length) := hn
  have HNA : Hid (nA = A.length) := hnA
  have HNB : Hid (nB = B.length) := hnB
  have h0A : Hid (Rd st w aA cA A) := hA
  have h0B : Hid (Rd st w aB cB B) := hB
  have h0F : Hid (aA.map (·.block) ≠ some gT) := fA
  have h0E : Hid (aB.map (·.block) ≠ some gT) := fB
  have h0G : Hid ([] ++ T.mg (A.length + B.length) A B = G) := hG
  have h0T : Hid (RowAt st 9 w gT (Tt.take p ++ [] ++ Tt.drop (p + 0))) := (by simpa using hT : RowAt st 9 w gT (Tt.take p ++ [] ++ Tt.drop (p + 0)))
  have hn5 : n ≤ 70000 := by omega
  clear hT hn hnA hnB hA hB fA fB hG
  go_enter Tryz.func107, Tryz.ntmps107
  go_wp2_with fail
  go_loopw [1, 2, 9] (fun va vb vi wr => ∃ (i nx ny ka kb : Nat) (a2 b2 : Option Addr) (X Y Z : List (List UInt8)), i ≤ n ∧ vi = .int .i64 (i : Int) ∧ va = .slice a2 nx ka ∧ vb = .slice b2 ny kb ∧ Hid (nx = X.length) ∧ Hid (ny = Y.length) ∧ Hid (X.length + Y.length = n - i) ∧ Hid (Z.length = i) ∧ Hid (Rd st wr a2 ka X) ∧ Hid (Rd st wr b2 kb Y) ∧ Hid (a2.map (·.block) ≠ some gT) ∧ Hid (b2.map (·.block) ≠ some gT) ∧ Hid (Z ++ T.mg (X.length + Y.length) X Y = G) ∧ Hid (RowAt st 9 wr gT (Tt.take p ++ Z ++ Tt.drop (p + i))) ∧ Hid (w.grownBy wr (some gT))) (fun _ _ vi _ => n - (intOf vi).toNat)
  case atStart => exact ⟨0, nA, nB, cA, cB, aA, aB, A, B, [], by omega, rfl, rfl, rfl, HNA, HNB, (by rw [HN.out]; rfl : A.length + B.length = n - 0), (rfl : ([] : List (List UInt8)).length = 0), h0A, h0B, h0F, h0E, h0G, h0T, World.grownBy.refl w _⟩
  case round =>
    obtain ⟨i, nx, ny, ka, kb, a2, b2, X, Y, Z, hi, rfl, rfl, rfl, HX, HY, HXY, HZ, HRX, HRY, HFX, HFY, HG, HRow, HGr⟩ := hrel
    clear h0A h0B h0F h0E h0G h0T HNA HNB HN
    by_cases hlt : i < n
    · have ti : decide ((i : Int) < (n : Int)) = true := by simp; omega
      have hkx := HRX.out.1
      have hky := HRY.out.1
      have hmx := HRX.out.2.1
      have hmy := HRY.out.2.1
      unfold maxLen at hmx hmy
      have hpi : p + i < Tt.length := by omega
      have hLl : (Tt.take p ++ Z ++ Tt.drop (p + i)).length = Tt.length := by have := HZ.out; simp; omega
      have hfr : wr.frozen? ⟨gT, p + i, none⟩ = false := HRow.out.frozen _
      have hcT := HRow.out.cell (k := p + i) (by rw [hLl]; exact hpi)
      obtain ⟨old, hold⟩ : ∃ old, old = (Tt.take p ++ Z ++ Tt.drop (p + i))[p + i]'(by rw [hLl]; exact hpi) := ⟨_, rfl⟩
      rw [← hold] at hcT
      clear hold hLl
      have hxy := HXY.out
      have hxl := HX.out
      have hyl := HY.out
      cases Y with
      | nil =>
        cases X with
        | nil => simp at hxy; omega
        | cons x X =>
          have hmg : T.mg ((x :: X).length + ([] : List (List UInt8)).length) (x :: X) ([] : List (List UInt8)) = x :: T.mg (X.length + ([] : List (List UInt8)).length) X ([] : List (List UInt8)) := by
            have hf : (x :: X).length + ([] : List (List UInt8)).length = (X.length + ([] : List (List UInt8)).length) + 1 := by simp; try omega
            rw [hf]
            rfl
          have hg2 : (Z ++ [x]) ++ T.mg (X.length + ([] : List (List UInt8)).length) X ([] : List (List UInt8)) = G := by have := HG.out; rw [hmg] at this; rw [List.append_assoc]; exact this
          have HG2 : Hid ((Z ++ [x]) ++ T.mg (X.length + ([] : List (List UInt8)).length) X ([] : List (List UInt8)) = G) := hg2
          have hl0 : 0 < (x :: X).length := by simp
          obtain ⟨q, off, rfl, hcz⟩ := HRX.out.at hl0
          have hcx : wr.cell? ⟨q, off, none⟩ = some (.string (str x)) := hcz
          have hnn : nx - 1 = X.length := by rw [hxl]; simp
          obtain ⟨a3, ha3⟩ : ∃ u : Option Addr, (if ka = 1 then some (⟨q, off, none⟩ : Addr) else some ⟨q, off + 1, none⟩) = u := ⟨_, rfl⟩
          have hR2 : Rd st wr a3 (ka - 1) X := by
            rw [← ha3]
            split
            · rename_i h1
              have hX0 : X = [] := List.eq_nil_of_length_eq_zero (by simp at hkx; omega)
              rw [hX0, h1]; exact Rd.none_d _ _
            · exact HRX.out.from 1 (by simp)
          have HR2 : Hid (Rd st wr a3 (ka - 1) X) := hR2
          have HF2 : Hid (a3.map (·.block) ≠ some gT) := (by have := HFX.out; rw [← ha3]; split <;> simpa using this : a3.map (·.block) ≠ some gT)
          have HA3 : Hid ((if ka = 1 then some (⟨q, off, none⟩ : Addr) else some ⟨q, off + 1, none⟩) = a3) := ha3
          have HNN : Hid (nx - 1 = X.length) := hnn
          have HZ2 : Hid ((Z ++ [x]).length = i + 1) := (by have := HZ.out; simp; exact this : (Z ++ [x]).length = i + 1)
          have hn1 : 1 ≤ nx := by rw [hxl]; simp
          have hXY2 : X.length + ([] : List (List UInt8)).length = n - (i + 1) := by simp at hxy ⊢; omega
          have HXY2 : Hid (X.length + ([] : List (List UInt8)).length = n - (i + 1)) := hXY2
          have tp1 : ((nx : Int) == 0) = false := by simp; omega
          have tp2 : decide ((0 : Int) < (nx : Int)) = true := by simp; omega
          have tp3 : decide (0 < nx) = true := by simp; omega
          have to3 : decide (0 < ny) = false := by rw [hyl]; simp
          have hn2 : ny ≤ 0 := by rw [hyl]; simp
          have to1 : ((ny : Int) == 0) = true := by simp; omega
          have to2 : decide ((0 : Int) < (ny : Int)) = false := by simp; omega
          clear hcz hmg hg2 ha3 hR2 hnn hxy hxl hyl hXY2 HG
          go_wp2_with fail
          go_quiet (fail)
          go_wp2_with fail
          obtain ⟨w0, hw0⟩ : ∃ w0, w0 = wr.drewN nq := ⟨_, rfl⟩
          have hcx0 : w0.cell? ⟨q, off, none⟩ = some (.string (str x)) := by rw [hw0]; exact hcx
          have hfr0 : w0.frozen? ⟨gT, p + i, none⟩ = false := by rw [hw0]; exact hfr
          have hcT0 : w0.cell? ⟨gT, p + i, none⟩ = some (st old) := by rw [hw0]; exact hcT
          have HW0 : Hid (w0 = wr.drewN nq) := hw0
          rw [← hw0]
          clear hw0 hcx hfr hcT
          go_region
          rw [HA3.out]
          go_wp2
          go_roundw
          case rel =>
            have hgw : wr.grownBy ((w0.setCell ⟨gT, p + i, none⟩ (.string (str x))).drew) (some gT) := drew_grown (set_grown (by rw [HW0.out]; exact drewN_grown (World.grownBy.refl wr _) nq) _)
            refine ⟨i + 1, nx - 1, ny, ka - 1, kb, a3, b2, X, ([] : List (List UInt8)), Z ++ [x], by omega, by go_num, rfl, rfl, HNN, HY, HXY2, HZ2, ?r1, ?r2, HF2, HFY, HG2, ?r3, ?r4⟩
            case r1 => exact HR2.out.farB hgw HF2.out
            case r2 => exact HRY.out.farB hgw HFY.out
            case r3 => exact (by rw [← set_mid Tt Z p i x HZ.out hpi, HW0.out]; exact RowAt.set (w := wr.drewN nq) (by unfold RowAt; rw [drewN_heap]; exact HRow.out) x rfl : RowAt st 9 (w0.setCell ⟨gT, p + i, none⟩ (.string (str x))).drew gT (Tt.take p ++ (Z ++ [x]) ++ Tt.drop (p + (i + 1))))
            case r4 => exact HGr.out.trans hgw
          case measure => simp [intOf]; omega
      | cons y Y =>
        cases X with
        | nil =>
          have hmg : T.mg (([] : List (List UInt8)).length + (y :: Y).length) ([] : List (List UInt8)) (y :: Y) = y :: T.mg (([] : List (List UInt8)).length + Y.length) ([] : List (List UInt8)) Y := by
            have hf : ([] : List (List UInt8)).length + (y :: Y).length = (([] : List (List UInt8)).length + Y.length) + 1 := by simp; try omega
            rw [hf]
            rfl
          have hg2 : (Z ++ [y]) ++ T.mg (([] : List (List UInt8)).length + Y.length) ([] : List (List UInt8)) Y = G := by have := HG.out; rw [hmg] at this; rw [List.append_assoc]; exact this
          have HG2 : Hid ((Z ++ [y]) ++ T.mg (([] : List (List UInt8)).length + Y.length) ([] : List (List UInt8)) Y = G) := hg2
          have hl0 : 0 < (y :: Y).length := by simp
          obtain ⟨q, off, rfl, hcz⟩ := HRY.out.at hl0
          have hcx : wr.cell? ⟨q, off, none⟩ = some (.string (str y)) := hcz
          have hnn : ny - 1 = Y.length := by rw [hyl]; simp
          obtain ⟨b3, ha3⟩ : ∃ u : Option Addr, (if kb = 1 then some (⟨q, off, none⟩ : Addr) else some ⟨q, off + 1, none⟩) = u := ⟨_, rfl⟩
          have hR2 : Rd st wr b3 (kb - 1) Y := by
            rw [← ha3]
            split
            · rename_i h1
              have hX0 : Y = [] := List.eq_nil_of_length_eq_zero (by simp at hky; omega)
              rw [hX0, h1]; exact Rd.none_d _ _
            · exact HRY.out.from 1 (by simp)
          have HR2 : Hid (Rd st wr b3 (kb - 1) Y) := hR2
          have HF2 : Hid (b3.map (·.block) ≠ some gT) := (by have := HFY.out; rw [← ha3]; split <;> simpa using this : b3.map (·.block) ≠ some gT)
          have HA3 : Hid ((if kb = 1 then some (⟨q, off, none⟩ : Addr) else some ⟨q, off + 1, none⟩) = b3) := ha3
          have HNN : Hid (ny - 1 = Y.length) := hnn
          have HZ2 : Hid ((Z ++ [y]).length = i + 1) := (by have := HZ.out; simp; exact this : (Z ++ [y]).length = i + 1)
          have hn1 : 1 ≤ ny := by rw [hyl]; simp
          have hXY2 : ([] : List (List UInt8)).length + Y.length = n - (i + 1) := by simp at hxy ⊢; omega
          have HXY2 : Hid (([] : List (List UInt8)).length + Y.length = n - (i + 1)) := hXY2
          have tp1 : ((ny : Int) == 0) = false := by simp; omega
          have tp2 : decide ((0 : Int) < (ny : Int)) = true := by simp; omega
          have tp3 : decide (0 < ny) = true := by simp; omega
          have to3 : decide (0 < nx) = false := by rw [hxl]; simp
          have hn2 : nx ≤ 0 := by rw [hxl]; simp
          have to1 : ((nx : Int) == 0) = true := by simp; omega
          have to2 : decide ((0 : Int) < (nx : Int)) = false := by simp; omega
          clear hcz hmg hg2 ha3 hR2 hnn hxy hxl hyl hXY2 HG
          go_wp2_with fail
          go_quiet (fail)
          go_wp2_with fail
          obtain ⟨w0, hw0⟩ : ∃ w0, w0 = wr.drewN nq := ⟨_, rfl⟩
          have hcx0 : w0.cell? ⟨q, off, none⟩ = some (.string (str y)) := by rw [hw0]; exact hcx
          have hfr0 : w0.frozen? ⟨gT, p + i, none⟩ = false := by rw [hw0]; exact hfr
          have hcT0 : w0.cell? ⟨gT, p + i, none⟩ = some (st old) := by rw [hw0]; exact hcT
          have HW0 : Hid (w0 = wr.drewN nq) := hw0
          rw [← hw0]
          clear hw0 hcx hfr hcT
          go_region
          rw [HA3.out]
          go_wp2
          go_roundw
          case rel =>
            have hgw : wr.grownBy ((w0.setCell ⟨gT, p + i, none⟩ (.string (str y))).drew) (some gT) := drew_grown (set_grown (by rw [HW0.out]; exact drewN_grown (World.grownBy.refl wr _) nq) _)
            refine ⟨i + 1, nx, ny - 1, ka, kb - 1, a2, b3, ([] : List (List UInt8)), Y, Z ++ [y], by omega, by go_num, rfl, rfl, HX, HNN, HXY2, HZ2, ?r1, ?r2, HFX, HF2, HG2, ?r3, ?r4⟩
            case r1 => exact HRX.out.farB hgw HFX.out
            case r2 => exact HR2.out.farB hgw HF2.out
            case r3 => exact (by rw [← set_mid Tt Z p i y HZ.out hpi, HW0.out]; exact RowAt.set (w := wr.drewN nq) (by unfold RowAt; rw [drewN_heap]; exact HRow.out) y rfl : RowAt st 9 (w0.setCell ⟨gT, p + i, none⟩ (.string (str y))).drew gT (Tt.take p ++ (Z ++ [y]) ++ Tt.drop (p + (i + 1))))
            case r4 => exact HGr.out.trans hgw
          case measure => simp [intOf]; omega
        | cons x X =>
          cases hle : T.le x y with
          | true =>
            have hmg : T.mg ((x :: X).length + (y :: Y).length) (x :: X) (y :: Y) = x :: T.mg (X.length + (y :: Y).length) X (y :: Y) := by
              have hf : (x :: X).length + (y :: Y).length = (X.length + (y :: Y).length) + 1 := by simp; try omega
              rw [hf]
              show (if T.le x y = true then _ else _) = _
              rw [if_pos hle]
            have hg2 : (Z ++ [x]) ++ T.mg (X.length + (y :: Y).length) X (y :: Y) = G := by have := HG.out; rw [hmg] at this; rw [List.append_assoc]; exact this
            have HG2 : Hid ((Z ++ [x]) ++ T.mg (X.length + (y :: Y).length) X (y :: Y) = G) := hg2
            have hl0 : 0 < (x :: X).length := by simp
            obtain ⟨q, off, rfl, hcz⟩ := HRX.out.at hl0
            have hcx : wr.cell? ⟨q, off, none⟩ = some (.string (str x)) := hcz
            have hnn : nx - 1 = X.length := by rw [hxl]; simp
            obtain ⟨a3, ha3⟩ : ∃ u : Option Addr, (if ka = 1 then some (⟨q, off, none⟩ : Addr) else some ⟨q, off + 1, none⟩) = u := ⟨_, rfl⟩
            have hR2 : Rd st wr a3 (ka - 1) X := by
              rw [← ha3]
              split
              · rename_i h1
                have hX0 : X = [] := List.eq_nil_of_length_eq_zero (by simp at hkx; omega)
                rw [hX0, h1]; exact Rd.none_d _ _
              · exact HRX.out.from 1 (by simp)
            have HR2 : Hid (Rd st wr a3 (ka - 1) X) := hR2
            have HF2 : Hid (a3.map (·.block) ≠ some gT) := (by have := HFX.out; rw [← ha3]; split <;> simpa using this : a3.map (·.block) ≠ some gT)
            have HA3 : Hid ((if ka = 1 then some (⟨q, off, none⟩ : Addr) else some ⟨q, off + 1, none⟩) = a3) := ha3
            have HNN : Hid (nx - 1 = X.length) := hnn
            have HZ2 : Hid ((Z ++ [x]).length = i + 1) := (by have := HZ.out; simp; exact this : (Z ++ [x]).length = i + 1)
            have hn1 : 1 ≤ nx := by rw [hxl]; simp
            have hXY2 : X.length + (y :: Y).length = n - (i + 1) := by simp at hxy ⊢; omega
            have HXY2 : Hid (X.length + (y :: Y).length = n - (i + 1)) := hXY2
            have tp1 : ((nx : Int) == 0) = false := by simp; omega
            have tp2 : decide ((0 : Int) < (nx : Int)) = true := by simp; omega
            have tp3 : decide (0 < nx) = true := by simp; omega
            have to3 : decide (0 < ny) = true := by rw [hyl]; simp
            have hn2 : 1 ≤ ny := by rw [hyl]; simp
            have to1 : ((ny : Int) == 0) = false := by simp; omega
            have to2 : decide ((0 : Int) < (ny : Int)) = true := by simp; omega
            have hl1 : 0 < (y :: Y).length := by simp
            obtain ⟨q2, off2, rfl, hcz2⟩ := HRY.out.at hl1
            have hcy : wr.cell? ⟨q2, off2, none⟩ = some (.string (str y)) := hcz2
            have hcmp : (Op.bytesLess x y || x == y) = true := hle
            have zx := str_toList x
            have zy := str_toList y
            clear hcz hcz2 hmg hg2 ha3 hR2 hnn hxy hxl hyl hXY2 HG hle
            go_wp2_with fail
            go_quiet (fail)
            go_wp2_with fail
            obtain ⟨w0, hw0⟩ : ∃ w0, w0 = wr.drewN nq := ⟨_, rfl⟩
            have hcx0 : w0.cell? ⟨q, off, none⟩ = some (.string (str x)) := by rw [hw0]; exact hcx
            have hfr0 : w0.frozen? ⟨gT, p + i, none⟩ = false := by rw [hw0]; exact hfr
            have hcT0 : w0.cell? ⟨gT, p + i, none⟩ = some (st old) := by rw [hw0]; exact hcT
            have HW0 : Hid (w0 = wr.drewN nq) := hw0
            rw [← hw0]
            clear hw0 hcx hfr hcT
            go_region
            rw [HA3.out]
            go_wp2
            go_roundw
            case rel =>
              have hgw : wr.grownBy ((w0.setCell ⟨gT, p + i, none⟩ (.string (str x))).drew) (some gT) := drew_grown (set_grown (by rw [HW0.out]; exact drewN_grown (World.grownBy.refl wr _) nq) _)
              refine ⟨i + 1, nx - 1, ny, ka - 1, kb, a3, some ⟨q2, off2, none⟩, X, (y :: Y), Z ++ [x], by omega, by go_num, rfl, rfl, HNN, HY, HXY2, HZ2, ?r1, ?r2, HF2, HFY, HG2, ?r3, ?r4⟩
              case r1 => exact HR2.out.farB hgw HF2.out
              case r2 => exact HRY.out.farB hgw HFY.out
              case r3 => exact (by rw [← set_mid Tt Z p i x HZ.out hpi, HW0.out]; exact RowAt.set (w := wr.drewN nq) (by unfold RowAt; rw [drewN_heap]; exact HRow.out) x rfl : RowAt st 9 (w0.setCell ⟨gT, p + i, none⟩ (.string (str x))).drew gT (Tt.take p ++ (Z ++ [x]) ++ Tt.drop (p + (i + 1))))
              case r4 => exact HGr.out.trans hgw
            case measure => simp [intOf]; omega
          | false =>
            have hmg : T.mg ((x :: X).length + (y :: Y).length) (x :: X) (y :: Y) = y :: T.mg ((x :: X).length + Y.length) (x :: X) Y := by
              have hf : (x :: X).length + (y :: Y).length = ((x :: X).length + Y.length) + 1 := by simp; try omega
              rw [hf]
              show (if T.le x y = true then _ else _) = _
              rw [if_neg (by rw [hle]; simp)]
            have hg2 : (Z ++ [y]) ++ T.mg ((x :: X).length + Y.length) (x :: X) Y = G := by have := HG.out; rw [hmg] at this; rw [List.append_assoc]; exact this
            have HG2 : Hid ((Z ++ [y]) ++ T.mg ((x :: X).length + Y.length) (x :: X) Y = G) := hg2
            have hl0 : 0 < (y :: Y).length := by simp
            obtain ⟨q, off, rfl, hcz⟩ := HRY.out.at hl0
            have hcx : wr.cell? ⟨q, off, none⟩ = some (.string (str y)) := hcz
            have hnn : ny - 1 = Y.length := by rw [hyl]; simp
            obtain ⟨b3, ha3⟩ : ∃ u : Option Addr, (if kb = 1 then some (⟨q, off, none⟩ : Addr) else some ⟨q, off + 1, none⟩) = u := ⟨_, rfl⟩
            have hR2 : Rd st wr b3 (kb - 1) Y := by
              rw [← ha3]
              split
              · rename_i h1
                have hX0 : Y = [] := List.eq_nil_of_length_eq_zero (by simp at hky; omega)
                rw [hX0, h1]; exact Rd.none_d _ _
              · exact HRY.out.from 1 (by simp)
            have HR2 : Hid (Rd st wr b3 (kb - 1) Y) := hR2
            have HF2 : Hid (b3.map (·.block) ≠ some gT) := (by have := HFY.out; rw [← ha3]; split <;> simpa using this : b3.map (·.block) ≠ some gT)
            have HA3 : Hid ((if kb = 1 then some (⟨q, off, none⟩ : Addr) else some ⟨q, off + 1, none⟩) = b3) := ha3
            have HNN : Hid (ny - 1 = Y.length) := hnn
            have HZ2 : Hid ((Z ++ [y]).length = i + 1) := (by have := HZ.out; simp; exact this : (Z ++ [y]).length = i + 1)
            have hn1 : 1 ≤ ny := by rw [hyl]; simp
            have hXY2 : (x :: X).length + Y.length = n - (i + 1) := by simp at hxy ⊢; omega
            have HXY2 : Hid ((x :: X).length + Y.length = n - (i + 1)) := hXY2
            have tp1 : ((ny : Int) == 0) = false := by simp; omega
            have tp2 : decide ((0 : Int) < (ny : Int)) = true := by simp; omega
            have tp3 : decide (0 < ny) = true := by simp; omega
            have to3 : decide (0 < nx) = true := by rw [hxl]; simp
            have hn2 : 1 ≤ nx := by rw [hxl]; simp
            have to1 : ((nx : Int) == 0) = false := by simp; omega
            have to2 : decide ((0 : Int) < (nx : Int)) = true := by simp; omega
            have hl1 : 0 < (x :: X).length := by simp
            obtain ⟨q2, off2, rfl, hcz2⟩ := HRX.out.at hl1
            have hcy : wr.cell? ⟨q2, off2, none⟩ = some (.string (str x)) := hcz2
            have hcmp : (Op.bytesLess x y || x == y) = false := hle
            have zx := str_toList x
            have zy := str_toList y
            clear hcz hcz2 hmg hg2 ha3 hR2 hnn hxy hxl hyl hXY2 HG hle
            go_wp2_with fail
            go_quiet (fail)
            go_wp2_with fail
            obtain ⟨w0, hw0⟩ : ∃ w0, w0 = wr.drewN nq := ⟨_, rfl⟩
            have hcx0 : w0.cell? ⟨q, off, none⟩ = some (.string (str y)) := by rw [hw0]; exact hcx
            have hfr0 : w0.frozen? ⟨gT, p + i, none⟩ = false := by rw [hw0]; exact hfr
            have hcT0 : w0.cell? ⟨gT, p + i, none⟩ = some (st old) := by rw [hw0]; exact hcT
            have HW0 : Hid (w0 = wr.drewN nq) := hw0
            rw [← hw0]
            clear hw0 hcx hfr hcT
            go_region
            rw [HA3.out]
            go_wp2
            go_roundw
            case rel =>
              have hgw : wr.grownBy ((w0.setCell ⟨gT, p + i, none⟩ (.string (str y))).drew) (some gT) := drew_grown (set_grown (by rw [HW0.out]; exact drewN_grown (World.grownBy.refl wr _) nq) _)
              refine ⟨i + 1, nx, ny - 1, ka, kb - 1, some ⟨q2, off2, none⟩, b3, (x :: X), Y, Z ++ [y], by omega, by go_num, rfl, rfl, HX, HNN, HXY2, HZ2, ?r1, ?r2, HFX, HF2, HG2, ?r3, ?r4⟩
              case r1 => exact HRX.out.farB hgw HFX.out
              case r2 => exact HR2.out.farB hgw HF2.out
              case r3 => exact (by rw [← set_mid Tt Z p i y HZ.out hpi, HW0.out]; exact RowAt.set (w := wr.drewN nq) (by unfold RowAt; rw [drewN_heap]; exact HRow.out) y rfl : RowAt st 9 (w0.setCell ⟨gT, p + i, none⟩ (.string (str y))).drew gT (Tt.take p ++ (Z ++ [y]) ++ Tt.drop (p + (i + 1))))
              case r4 => exact HGr.out.trans hgw
            case measure => simp [intOf]; omega
    · obtain rfl : i = n := by omega
      have hxy := HXY.out
      have hX : X = [] := List.eq_nil_of_length_eq_zero (by omega)
      have hY : Y = [] := List.eq_nil_of_length_eq_zero (by omega)
      subst hX
      subst hY
      have hg := HG.out
      have hZG : Z = G := by simpa [T.mg] using hg
      have ti : decide ((i : Int) < (i : Int)) = false := by simp
      have HRow2 : Hid (RowAt st 9 wr gT (Tt.take p ++ G ++ Tt.drop (p + i))) := (by rw [← hZG]; exact HRow.out : RowAt st 9 wr gT (Tt.take p ++ G ++ Tt.drop (p + i)))
      clear hxy hg hZG HG HX HY HXY HZ HRow
      go_wp2
      first | go_end0 | refine bodyPost_ret (results_none rfl _ _ _) rfl ?_
      exact ⟨rfl, HRow2.out, HGr.out⟩
end Go.Proofs.YtnmonoafjijfhaaGreat
