/-
  marked of the statements of layer 11.
-/
import Derived.Test.YtkhbkifofkjjnaaDknown
namespace Go.Proofs.Ytkhbkifofkjjnaa
open Go.RowKit
set_option linter.unusedVariables false
set_option linter.unusedSimpArgs false
theorem I.wi64 (n : Int) (h1 : -9223372036854775808 ≤ n) (h2 : n ≤ 9223372036854775807) : IntKind.i64.wrap n = n := by
  simp only [IntKind.wrap, IntKind.bits, IntKind.signed]
  simp
  omega
/-- What is marked of places one by one. -/
def Dl.mks (n : Nat) (l : List Int) : List Bool := l.foldl Dl.setW (List.replicate n false)
theorem Dl.mks_next {n : Nat} {l : List Int} {i : Nat} (h : i < l.length) {x : Int} (hx : x = l[i]) : Dl.mks n (l.take (i + 1)) = Dl.setW (Dl.mks n (l.take i)) x := by
  rw [List.take_succ_eq_append_getElem h, Dl.mks, List.foldl_append, ← hx]; rfl
theorem Disj.grow {fp fp' fo : Nat → Prop} {s : Nat} (h : ∀ k, fp k → ¬ fo k) (hf : ∀ k, fp' k → fp k ∨ s ≤ k) (hl : ∀ k, fo k → k < s) : ∀ k, fp' k → ¬ fo k := by
  intro k hk ho
  rcases hf k hk with h1 | h1
  · exact h k h1 ho
  · have := hl k ho; omega
set_option maxRecDepth 100000 in
set_option maxHeartbeats 2000000 in
theorem marked_is (n : Nat) (a : Option Addr) (ln cap : Nat) (l : List Int) (w : World) (hn : n ≤ 1000) (hln : ln = l.length) (hB : Rd z64 w a cap l) (hok : ∀ x ∈ l, In64 x) :
    Calls Try.prog 18 #[.int .i64 (n : Int), .slice a ln cap] w fun e w' => ∃ gm g fp ws, e = .returned (.tuple #[.pointer (some ⟨gm, 0, none⟩), .slice (some ⟨g, 0, none⟩) n n]) ∧ Mk w' (.pointer (some ⟨gm, 0, none⟩)) fp ws ∧ RowAt bl 4 w' g ws ∧ ¬ fp g ∧ (∀ k, fp k → w.heap.size ≤ k) ∧ w.heap.size ≤ g ∧ ws.length = n ∧ ws = Dl.mks n (l.take 100) ∧ Ex w w' := by
  subst hln
  have HB : Hid (Rd z64 w a cap l) := hB
  have HOk : Hid (∀ x ∈ l, In64 x) := hok
  have hcl := hB.1
  have hcm := hB.2.1
  unfold maxLen at hcm
  clear hB hok
  go_enter Try.func18, Try.ntmps18
  go_wp2_with fail
  refine (new_ok n _ (by omega)).mono ?_
  rintro e w1 ⟨v, fp, rfl, hm1, hf1, hx1⟩
  obtain ⟨gm, rfl⟩ := hm1.some_
  have HM1 : Hid (Mk w1 (.pointer (some ⟨gm, 0, none⟩)) fp (List.replicate n false)) := hm1
  have HF1 : Hid (∀ k, fp k → w.heap.size ≤ k) := hf1
  have HX1 : Hid (Ex w w1) := hx1
  clear hm1 hf1 hx1
  go_wp2_with (at_make; refine wpList_make_row (enc := bl) rfl _ _ 37 4 rfl false 1 Try.underlying37 rfl Try.info4 _ _ n rfl rfl rfl rfl (by omega) (by omega) ?_; intro w2 hr2 hb2)
  obtain ⟨g, hg⟩ : ∃ g, g = w1.heap.size := ⟨_, rfl⟩
  rw [← hg]
  have h0M : Hid (Mk w2 (.pointer (some ⟨gm, 0, none⟩)) fp (List.replicate n false)) := HM1.out.below hb2
  have h0R : Hid (RowAt bl 4 w2 g (List.replicate n false)) := (by rw [hg]; exact hr2 : RowAt bl 4 w2 g (List.replicate n false))
  have h0G : Hid (¬ fp g) := (fun h => by have := HM1.out.lt g h; omega : ¬ fp g)
  have h0X : Hid (Ex w w2) := HX1.out.trans hb2
  have h0L : Hid ((List.replicate n false).length = n) := (by simp : (List.replicate n false).length = n)
  have hgw : w.heap.size ≤ g := by have := HX1.out.size; omega
  clear hr2 hb2 hg HM1 HX1
  go_loopw [9] (fun vi wr => ∃ (i : Nat) (fp : Nat → Prop) (ws : List Bool), i ≤ l.length ∧ i ≤ 100 ∧ vi = .int .i64 (i : Int) ∧ Hid (Mk wr (.pointer (some ⟨gm, 0, none⟩)) fp ws) ∧ Hid (RowAt bl 4 wr g ws) ∧ Hid (¬ fp g) ∧ Hid (∀ k, fp k → w.heap.size ≤ k) ∧ Hid (ws.length = n) ∧ Hid (ws = Dl.mks n (l.take i)) ∧ Hid (Ex w wr)) (fun vi _ => l.length - (intOf vi).toNat)
  case atStart => exact ⟨0, fp, List.replicate n false, by omega, by omega, rfl, h0M, h0R, h0G, HF1, h0L, (rfl : List.replicate n false = Dl.mks n (l.take 0)), h0X⟩
  case round =>
    clear h0M h0R h0G HF1 h0L h0X
    obtain ⟨i, fp, ws, hi, hi2, rfl, HM, HR, HG, HF, HL, HK, HX⟩ := hrel
    by_cases hlt : i < l.length ∧ i < 100
    · obtain ⟨hlt1, hlt2⟩ := hlt
      have ti1 : decide ((i : Int) < (l.length : Int)) = true := by simp; omega
      have ti2 : decide ((i : Int) < 100) = true := by simp; omega
      have ti3 : decide (i < 100) = true := by simp; omega
      obtain ⟨b, off, rfl, hc⟩ := (HB.out.below HX.out).at hlt1
      obtain ⟨x, hx⟩ : ∃ x, x = l[i] := ⟨_, rfl⟩
      rw [← hx] at hc
      have hc' : wr.cell? ⟨b, off + i, none⟩ = some (.int .i64 x) := hc
      have hii : (i : Int) < (l.length : Int) := by omega
      obtain ⟨hx1, hx2⟩ : In64 x := by rw [hx]; exact HOk.out _ (List.getElem_mem hlt1)
      have HKn : Hid (Dl.mks n (l.take (i + 1)) = Dl.setW ws x) := (by rw [Dl.mks_next hlt1 hx, ← HK.out] : Dl.mks n (l.take (i + 1)) = Dl.setW ws x)
      clear hc hx
      by_cases hx0 : x < 0
      · have tx : decide (0 ≤ x) = false := by simp; omega
        have HS : Hid (Dl.setB ws x = false) := (by rw [Dl.setB, decide_eq_false (by omega)]; rfl : Dl.setB ws x = false)
        have HW : Hid (Dl.setW ws x = ws) := (by rw [Dl.setW, HS.out]; rfl : Dl.setW ws x = ws)
        go_wp2_with fail
        refine (set_is _ fp ws x _ HM.out (by omega) (by omega) false HS.out ws HW.out).mono ?_
        rintro e w2 ⟨rfl, fp2, hm2, ht2, hf2⟩
        have hsz := HX.out.size
        have hgl := HR.out.lt
        have HM2 : Hid (Mk w2 (.pointer (some ⟨gm, 0, none⟩)) fp2 ws) := hm2
        have HR2 : Hid (RowAt bl 4 w2 g ws) := HR.out.touch ht2 HG.out
        have HG2 : Hid (¬ fp2 g) := (fun h => by rcases hf2 g h with h' | h'; exact HG.out h'; omega : ¬ fp2 g)
        have HF2 : Hid (∀ k, fp2 k → w.heap.size ≤ k) := (fun k hk => by rcases hf2 k hk with h | h; exact HF.out k h; omega : ∀ k, fp2 k → w.heap.size ≤ k)
        have HX2 : Hid (Ex w w2) := Touch.ex HX.out ht2 HF.out
        clear hm2 ht2 hf2 hsz hgl
        go_wp2
        go_roundw
        case rel => exact ⟨i + 1, fp2, ws, by omega, by omega, by go_num, HM2, HR2, HG2, HF2, HL, (by rw [HKn.out, HW.out] : ws = Dl.mks n (l.take (i + 1))), HX2⟩
        case measure => simp [intOf]; omega
      · have tx : decide (0 ≤ x) = true := by simp; omega
        obtain ⟨q, hq⟩ : ∃ q : Nat, x = (q : Int) := ⟨x.toNat, by omega⟩
        by_cases hqn : q < n
        · have tq : decide (x < (n : Int)) = true := by simp; omega
          have hql : q < ws.length := by rw [HL.out]; exact hqn
          obtain ⟨c, hcq⟩ : ∃ c, c = ws[q] := ⟨_, rfl⟩
          have hcell := HR.out.cell hql
          rw [← hcq] at hcell
          have hcell' : wr.cell? ⟨g, q, none⟩ = some (.bool c) := hcell
          have hat : Dl.has ws x = c := by rw [hq, Dl.has_nat, List.getD_eq_getElem?_getD, List.getElem?_eq_getElem hql, hcq]; rfl
          have hset : Dl.setB ws x = !c := by rw [Dl.setB, hat, decide_eq_true (by omega), decide_eq_true (by have := HL.out; omega)]; simp
          subst hq
          have hqi : (q : Int) < (n : Int) := by omega
          clear hcell hcq hat
          cases c with
          | true =>
            have HS : Hid (Dl.setB ws (q : Int) = false) := hset
            have HW : Hid (Dl.setW ws (q : Int) = ws) := (by rw [Dl.setW, HS.out]; rfl : Dl.setW ws (q : Int) = ws)
            clear hset
            go_wp2_with fail
            refine (set_is _ fp ws (q : Int) _ HM.out (by omega) (by omega) false HS.out ws HW.out).mono ?_
            rintro e w2 ⟨rfl, fp2, hm2, ht2, hf2⟩
            have hsz := HX.out.size
            have hgl := HR.out.lt
            have HM2 : Hid (Mk w2 (.pointer (some ⟨gm, 0, none⟩)) fp2 ws) := hm2
            have HR2 : Hid (RowAt bl 4 w2 g ws) := HR.out.touch ht2 HG.out
            have HG2 : Hid (¬ fp2 g) := (fun h => by rcases hf2 g h with h' | h'; exact HG.out h'; omega : ¬ fp2 g)
            have HF2 : Hid (∀ k, fp2 k → w.heap.size ≤ k) := (fun k hk => by rcases hf2 k hk with h | h; exact HF.out k h; omega : ∀ k, fp2 k → w.heap.size ≤ k)
            have HX2 : Hid (Ex w w2) := Touch.ex HX.out ht2 HF.out
            clear hm2 ht2 hf2 hsz hgl
            go_wp2
            go_roundw
            case rel => exact ⟨i + 1, fp2, ws, by omega, by omega, by go_num, HM2, HR2, HG2, HF2, HL, (by rw [HKn.out, HW.out] : ws = Dl.mks n (l.take (i + 1))), HX2⟩
            case measure => simp [intOf]; omega
          | false =>
            have HS : Hid (Dl.setB ws (q : Int) = true) := hset
            have HW : Hid (Dl.setW ws (q : Int) = ws.set q true) := (by rw [Dl.setW, HS.out, if_pos rfl, Int.toNat_natCast] : Dl.setW ws (q : Int) = ws.set q true)
            clear hset
            go_wp2_with fail
            refine (set_is _ fp ws (q : Int) _ HM.out (by omega) (by omega) true HS.out (ws.set q true) HW.out).mono ?_
            rintro e w2 ⟨rfl, fp2, hm2, ht2, hf2⟩
            have hsz := HX.out.size
            have hgl := HR.out.lt
            have HM2 : Hid (Mk w2 (.pointer (some ⟨gm, 0, none⟩)) fp2 (ws.set q true)) := hm2
            have HR2 : Hid (RowAt bl 4 w2 g ws) := HR.out.touch ht2 HG.out
            have HG2 : Hid (¬ fp2 g) := (fun h => by rcases hf2 g h with h' | h'; exact HG.out h'; omega : ¬ fp2 g)
            have HF2 : Hid (∀ k, fp2 k → w.heap.size ≤ k) := (fun k hk => by rcases hf2 k hk with h | h; exact HF.out k h; omega : ∀ k, fp2 k → w.heap.size ≤ k)
            have HX2 : Hid (Ex w w2) := Touch.ex HX.out ht2 HF.out
            clear hm2 ht2 hf2 hsz hgl
            have hc2 : w2.cell? ⟨g, q, none⟩ = some (.bool false) := by have h := HR2.out.cell hql; rw [h]; have h0 := HR.out.cell hql; rw [hcell'] at h0; simpa using h0.symm
            have hf2 : w2.frozen? ⟨g, q, none⟩ = false := HR2.out.frozen q
            obtain ⟨w3, hw3⟩ : ∃ w3, w2.setCell ⟨g, q, none⟩ (.bool true) = w3 := ⟨_, rfl⟩
            have HR3 : Hid (RowAt bl 4 w3 g (ws.set q true)) := (by rw [← hw3]; exact HR2.out.set true rfl : RowAt bl 4 w3 g (ws.set q true))
            have HM3 : Hid (Mk w3 (.pointer (some ⟨gm, 0, none⟩)) fp2 (ws.set q true)) := (by rw [← hw3]; exact HM2.out.keep fun k hk => Below.heap_setCell _ _ _ _ (fun h => HG2.out (by rw [show g = k from h.symm]; exact hk)) : Mk w3 (.pointer (some ⟨gm, 0, none⟩)) fp2 (ws.set q true))
            have HX3 : Hid (Ex w w3) := (by rw [← hw3]; exact HX2.out.setCell (p := ⟨g, q, none⟩) hgw _ : Ex w w3)
            have HL3 : Hid ((ws.set q true).length = n) := (by rw [List.length_set]; exact HL.out : (ws.set q true).length = n)
            go_wp2
            go_roundw
            case rel => exact ⟨i + 1, fp2, ws.set q true, by omega, by omega, by go_num, HM3, HR3, HG2, HF2, HL3, (by rw [HKn.out, HW.out] : ws.set q true = Dl.mks n (l.take (i + 1))), HX3⟩
            case measure => simp [intOf]; omega
        · have tq : decide (x < (n : Int)) = false := by simp; omega
          have HS : Hid (Dl.setB ws x = false) := (by rw [Dl.setB, decide_eq_false (show ¬ x < (ws.length : Int) by have := HL.out; omega)]; simp : Dl.setB ws x = false)
          have HW : Hid (Dl.setW ws x = ws) := (by rw [Dl.setW, HS.out]; rfl : Dl.setW ws x = ws)
          clear hq
          go_wp2_with fail
          refine (set_is _ fp ws x _ HM.out (by omega) (by omega) false HS.out ws HW.out).mono ?_
          rintro e w2 ⟨rfl, fp2, hm2, ht2, hf2⟩
          have hsz := HX.out.size
          have hgl := HR.out.lt
          have HM2 : Hid (Mk w2 (.pointer (some ⟨gm, 0, none⟩)) fp2 ws) := hm2
          have HR2 : Hid (RowAt bl 4 w2 g ws) := HR.out.touch ht2 HG.out
          have HG2 : Hid (¬ fp2 g) := (fun h => by rcases hf2 g h with h' | h'; exact HG.out h'; omega : ¬ fp2 g)
          have HF2 : Hid (∀ k, fp2 k → w.heap.size ≤ k) := (fun k hk => by rcases hf2 k hk with h | h; exact HF.out k h; omega : ∀ k, fp2 k → w.heap.size ≤ k)
          have HX2 : Hid (Ex w w2) := Touch.ex HX.out ht2 HF.out
          clear hm2 ht2 hf2 hsz hgl
          go_wp2
          go_roundw
          case rel => exact ⟨i + 1, fp2, ws, by omega, by omega, by go_num, HM2, HR2, HG2, HF2, HL, (by rw [HKn.out, HW.out] : ws = Dl.mks n (l.take (i + 1))), HX2⟩
          case measure => simp [intOf]; omega
    · have te : (decide ((i : Int) < (l.length : Int)) && decide ((i : Int) < 100)) = false := by simp; omega
      by_cases hl1 : i < l.length
      · have ti1 : decide ((i : Int) < (l.length : Int)) = true := by simp; omega
        have ti2 : decide ((i : Int) < 100) = false := by simp; omega
        have ti3 : decide (i < 100) = false := by simp; omega
        clear te
        go_wp2
        go_ret2
        exact ⟨gm, g, fp, ws, rfl, HM.out, HR.out, HG.out, HF.out, hgw, HL.out, by rw [HK.out]; congr 1; first | (rw [show i = 100 from by omega]) | (rw [List.take_of_length_le (show l.length ≤ i by omega), List.take_of_length_le (show l.length ≤ 100 by omega)]), HX.out⟩
      · have ti1 : decide ((i : Int) < (l.length : Int)) = false := by simp; omega
        clear te
        go_wp2
        go_ret2
        exact ⟨gm, g, fp, ws, rfl, HM.out, HR.out, HG.out, HF.out, hgw, HL.out, by rw [HK.out]; congr 1; first | (rw [show i = 100 from by omega]) | (rw [List.take_of_length_le (show l.length ≤ i by omega), List.take_of_length_le (show l.length ≤ 100 by omega)]), HX.out⟩
end Go.Proofs.Ytkhbkifofkjjnaa
