/-
  The walk of RowNumbers.
-/
import Derived.Test.YtghnbohplonhoaaRnums
import Derived.Test.YtghnbohplonhoaaRowTellsWalk
namespace Go.Proofs.Ytghnbohplonhoaa
open Go.RowKit
set_option linter.unusedVariables false
theorem str_cut40 {lg l4 : List UInt8} (h : lg.take 40 = l4) (hl : lg.length = 41) (w : World) : (Instr.sliceAt 9 (.string (str lg)) none (some (.int .i64 40)) none).run Try.prog w = .ok (.string (str l4)) w := by
  subst h
  have hs : (str lg).size = 41 := by rw [str_size]; exact hl
  simp [go_sem, hs]
  exact str_cut lg 40
/-- A cell with a short text: such as rows are built of here. -/
def Sm (c : Ce) : Prop := c.col.length ≤ 100 ∧ c.s.length ≤ 100 ∧ In64 c.k ∧ In64 c.n
theorem Sm.ok {t q : Int} {l : List Ce} (ht : In64 t) (hq : In64 q) (h : ∀ c ∈ l, Sm c) : RwOk ⟨t, q, l⟩ := by
  refine ⟨ht, hq, fun c hc => ?_⟩
  obtain ⟨h1, h2, h3, h4⟩ := h c hc
  unfold maxLen
  exact ⟨by omega, by omega, h3, h4⟩
end Go.Proofs.Ytghnbohplonhoaa
namespace Go.Proofs.Ytghnbohplonhoaa.rowNumbers
open Go.RowKit Go.Proofs.Ytghnbohplonhoaa
set_option linter.unusedVariables false
set_option linter.unusedSimpArgs false
set_option maxRecDepth 100000 in
set_option maxHeartbeats 32000000 in
theorem walk (w : World) : Calls Try.prog 3 #[] w fun e w' => e = .returned (.bool true) ∧ Below w.heap.size w w' := by
  obtain ⟨lg, hlg⟩ : ∃ lg : List UInt8, lg = List.replicate 41 0 := ⟨_, rfl⟩
  have HLg : Hid (lg = List.replicate 41 0) := hlg
  have hlgl : lg.length = 41 := by rw [hlg]; simp
  clear hlg
  go_enter Try.func3, Try.ntmps3
  go_wp2_with (at_make; refine wpList_make_zero rfl _ _ rfl _ _ 41 rfl rfl rfl rfl (by omega) ?_; intro w2 hg2 hb2; have hcv := run_str (n := 41) (RowAt.byt (n := 41) (e := 5) (show RowAt (fun b : UInt8 => .int .u8 (b.toNat : Int)) 5 w2 w.heap.size (List.replicate 41 0) from hg2) (by simp) (by omega)) (by simp); rw [← HLg.out] at hcv)
  have HX2 : Hid (Ex w w2) := hb2
  have hO0 : OwnC w2 w2.heap.size (.slice none 0 0) [] := ownW_none w2 _
  clear hg2 hb2 hcv
  go_loopw [2, 3] (fun v vi wr => ∃ j : Nat, j ≤ 9 ∧ vi = .int .i64 j ∧ Hid (∃ (LL : List Ce) (vv : Value), vv = v ∧ LL.length = j ∧ (∀ c ∈ LL, Sm c) ∧ OwnC wr w2.heap.size vv LL) ∧ Hid (Ex w2 wr)) (fun v vi wr => 9 - (intOf vi).toNat)
  case atStart => exact ⟨0, by omega, rfl, (⟨[], _, rfl, rfl, by simp, hO0⟩ : ∃ (LL : List Ce) (vv : Value), vv = .slice none 0 0 ∧ LL.length = 0 ∧ (∀ c ∈ LL, Sm c) ∧ OwnC w2 w2.heap.size vv LL), Ex.refl _⟩
  case round =>
    obtain ⟨j, hj, rfl, HV, HXr⟩ := hrel
    obtain ⟨LL, vv, hvv, hLL, hSm, hOwn⟩ := HV.out
    subst hvv
    have HOwn : Hid (OwnC wr w2.heap.size vv LL) := hOwn
    have HSm : Hid (∀ c ∈ LL, Sm c) := hSm
    have HLl : Hid (LL.length = j) := hLL
    clear HV hOwn hSm hLL hO0
    by_cases hlt : j < 9
    · have t1 : decide ((j : Int) < 9) = true := by simp; omega
      have t2 : decide (j < 9) = true := by simp; omega
      obtain ⟨x1, hx1⟩ : ∃ x : Int, 97 + (j : Int) = x := ⟨_, rfl⟩
      have hx1a : 97 ≤ x1 := by omega
      have hx1b : x1 ≤ 200 := by omega
      obtain ⟨tx, htx, hcx⟩ := rune_conv x1 wr
      go_wp2_with fail
      refine (num_is tx 1 _).mono ?_
      rintro e w3 ⟨rfl, hx3⟩
      have HX3 : Hid (Ex wr w3) := hx3
      have HR3 : Hid (RdC (w3.alloc (cb ⟨tx, 1, 1, []⟩)) (some ⟨w3.heap.size, 0, none⟩) 1 [⟨tx, 1, 1, []⟩]) := cell_laid w3 _
      have HX4 : Hid (Ex wr (w3.alloc (cb ⟨tx, 1, 1, []⟩))) := hx3.trans ((Below.refl _ _).alloc (Nat.le_refl _) _)
      have HO4 : Hid (OwnC (w3.alloc (cb ⟨tx, 1, 1, []⟩)) w2.heap.size vv LL) := OwnW.later HOwn.out HX4.out
      have HS4 : Hid (∀ c ∈ LL ++ [(⟨tx, 1, 1, []⟩ : Ce)], Sm c) := (fun c hc => by
        rcases List.mem_append.1 hc with h | h
        · exact HSm.out c h
        · rw [List.mem_singleton.1 h]
          exact ⟨by simp only; omega, by simp, ⟨by simp, by simp⟩, ⟨by simp, by simp⟩⟩ : ∀ c ∈ LL ++ [(⟨tx, 1, 1, []⟩ : Ce)], Sm c)
      have hbs : w2.heap.size ≤ (w3.alloc (cb ⟨tx, 1, 1, []⟩)).heap.size := Ex.size (HXr.out.trans HX4.out)
      clear hx3 hcx hx1
      simp only [cv]
      go_wp2_with (at_builtin; refine wpList_append_wide cc_len cc_one rfl (.tmp 44) (.tmp 50) 23 _ 48 rfl Try.underlying23 Try.info25 (by omega) rfl w2.heap.size vv LL rfl HO4.out (some ⟨w3.heap.size, 0, none⟩) 1 1 [⟨tx, 1, 1, []⟩] rfl rfl HR3.out (by have := HLl.out; simp [maxLen]; omega) (by have := HLl.out; simp; omega) hbs ?_; intro v5 w5 ho5 hg5 _)
      have HX5 : Hid (Ex w2 w5) := ((HXr.out.trans HX4.out).grown hg5 hbs (fun q hq => (HO4.out.lt q hq).1) : Ex w2 w5)
      have HV5 : Hid (∃ (LL : List Ce) (vv : Value), vv = v5 ∧ LL.length = j + 1 ∧ (∀ c ∈ LL, Sm c) ∧ OwnC w5 w2.heap.size vv LL) := (⟨_, _, rfl, by have := HLl.out; simp; omega, HS4.out, ho5⟩ : ∃ (LL : List Ce) (vv : Value), vv = v5 ∧ LL.length = j + 1 ∧ (∀ c ∈ LL, Sm c) ∧ OwnC w5 w2.heap.size vv LL)
      clear ho5 hg5
      go_roundw
      case rel => exact ⟨j + 1, by omega, by go_num, HV5, HX5⟩
      case measure => simp [intOf]; omega
    · obtain rfl : j = 9 := by omega
      rw [show ((9 : Nat) : Int) = (9 : Int) from rfl]
      obtain ⟨an, cn, hvn, hrn⟩ := OwnW.rd cc_len HOwn.out
      subst hvn
      have hcn := hrn.2.1
      have hcn1 := hrn.1
      unfold maxLen at hcn
      obtain ⟨NN, hNN⟩ : ∃ NN, LL = NN := ⟨_, rfl⟩
      rw [hNN] at hrn hcn1
      have HNs : Hid (∀ c ∈ NN, Sm c) := (by rw [← hNN]; exact HSm.out : ∀ c ∈ NN, Sm c)
      have HNl : Hid (NN.length = 9) := (by rw [← hNN]; exact HLl.out : NN.length = 9)
      have HRn : Hid (RdC wr an cn NN) := hrn
      rw [HNl.out] at hcn1
      rw [HLl.out]
      have hcni : (8 : Int) ≤ (cn : Int) := by omega
      obtain ⟨l4, hl4⟩ : ∃ l, lg.take 40 = l := ⟨_, rfl⟩
      have HL4 : Hid (lg.take 40 = l4) := hl4
      have hl4l : l4.length = 40 := by rw [← hl4]; simp; omega
      have HXw : Hid (Ex w wr) := HX2.out.trans HXr.out
      clear hrn hNN hl4 HOwn HSm HLl
      go_wp2_with fail
      have hre := Ex.refl
      refine Rg.wp_rows [.inr (IsRwA (⟨0, 0, []⟩ : Rw)), .inr (IsRwA (⟨1099511627776, 0, []⟩ : Rw)), .inr (IsRwA (⟨1099511627777, 0, []⟩ : Rw)), .inr (IsRwA (⟨(-1099511627777), 0, []⟩ : Rw)), .inr (IsRwA (⟨0, (-1), []⟩ : Rw)), .inr (IsRwA (⟨0, 1073741824, []⟩ : Rw)), .inr (IsRwA (⟨0, 1073741825, []⟩ : Rw)), .inl (cv (⟨[98], 1, 1, []⟩ : Ce)), .inl (cv (⟨[97], 1, 1, []⟩ : Ce)), .inr (IsCs [(⟨[98], 1, 1, []⟩ : Ce), (⟨[97], 1, 1, []⟩ : Ce)]), .inr (IsRwA (⟨1, 1, [(⟨[98], 1, 1, []⟩ : Ce), (⟨[97], 1, 1, []⟩ : Ce)]⟩ : Rw)), .inl (cv (⟨[97], 1, 1, []⟩ : Ce)), .inl (cv (⟨[97], 1, 1, []⟩ : Ce)), .inr (IsCs [(⟨[97], 1, 1, []⟩ : Ce), (⟨[97], 1, 1, []⟩ : Ce)]), .inr (IsRwA (⟨1, 1, [(⟨[97], 1, 1, []⟩ : Ce), (⟨[97], 1, 1, []⟩ : Ce)]⟩ : Rw)), .inl (cv (⟨[65], 1, 1, []⟩ : Ce)), .inr (IsCs [(⟨[65], 1, 1, []⟩ : Ce)]), .inr (IsRwA (⟨1, 1, [(⟨[65], 1, 1, []⟩ : Ce)]⟩ : Rw)), .inl (cv (⟨[97, 98, 99, 100, 101, 102, 103, 104, 105, 106, 107, 108, 109], 1, 1, []⟩ : Ce)), .inr (IsCs [(⟨[97, 98, 99, 100, 101, 102, 103, 104, 105, 106, 107, 108, 109], 1, 1, []⟩ : Ce)]), .inr (IsRwA (⟨1, 1, [(⟨[97, 98, 99, 100, 101, 102, 103, 104, 105, 106, 107, 108, 109], 1, 1, []⟩ : Ce)]⟩ : Rw)), .inl (cv (⟨[97, 98, 99, 100, 101, 102, 103, 104, 105, 106, 107, 108], 1, 1, []⟩ : Ce)), .inr (IsCs [(⟨[97, 98, 99, 100, 101, 102, 103, 104, 105, 106, 107, 108], 1, 1, []⟩ : Ce)]), .inr (IsRwA (⟨1, 1, [(⟨[97, 98, 99, 100, 101, 102, 103, 104, 105, 106, 107, 108], 1, 1, []⟩ : Ce)]⟩ : Rw)), .inl (.string (str lg)), .inl (cv (⟨[97], 2, 0, lg⟩ : Ce)), .inr (IsCs [(⟨[97], 2, 0, lg⟩ : Ce)]), .inr (IsRwA (⟨1, 1, [(⟨[97], 2, 0, lg⟩ : Ce)]⟩ : Rw)), .inl (.string (str lg)), .inl (.string (str l4)), .inl (cv (⟨[97], 2, 0, l4⟩ : Ce)), .inr (IsCs [(⟨[97], 2, 0, l4⟩ : Ce)]), .inr (IsRwA (⟨1, 1, [(⟨[97], 2, 0, l4⟩ : Ce)]⟩ : Rw)), .inl (cv (⟨[97], 0, 0, []⟩ : Ce)), .inr (IsCs [(⟨[97], 0, 0, []⟩ : Ce)]), .inr (IsRwA (⟨1, 1, [(⟨[97], 0, 0, []⟩ : Ce)]⟩ : Rw)), .inl (cv (⟨[97], 1, 0, [120]⟩ : Ce)), .inr (IsCs [(⟨[97], 1, 0, [120]⟩ : Ce)]), .inr (IsRwA (⟨1, 1, [(⟨[97], 1, 0, [120]⟩ : Ce)]⟩ : Rw)), .inl (cv (⟨[97], 2, 1, []⟩ : Ce)), .inr (IsCs [(⟨[97], 2, 1, []⟩ : Ce)]), .inr (IsRwA (⟨1, 1, [(⟨[97], 2, 1, []⟩ : Ce)]⟩ : Rw)), .inl (Value.slice an 9 cn), .inr (IsRwA (⟨1, 1, NN⟩ : Rw)), .inl (Value.slice an 9 cn), .inl (Value.slice an 8 cn), .inr (IsRwA (⟨1, 1, (NN.take 8)⟩ : Rw)), .inl (cv (⟨[97], 1, (-9223372036854775808), []⟩ : Ce)), .inl (cv (⟨[98], 2, 0, []⟩ : Ce)), .inr (IsCs [(⟨[97], 1, (-9223372036854775808), []⟩ : Ce), (⟨[98], 2, 0, []⟩ : Ce)]), .inr (IsRwA (⟨(-5), 9, [(⟨[97], 1, (-9223372036854775808), []⟩ : Ce), (⟨[98], 2, 0, []⟩ : Ce)]⟩ : Rw)), .inr (IsSS [(⟨0, 0, []⟩ : Rw), (⟨1099511627776, 0, []⟩ : Rw), (⟨1099511627777, 0, []⟩ : Rw), (⟨(-1099511627777), 0, []⟩ : Rw), (⟨0, (-1), []⟩ : Rw), (⟨0, 1073741824, []⟩ : Rw), (⟨0, 1073741825, []⟩ : Rw), (⟨1, 1, [(⟨[98], 1, 1, []⟩ : Ce), (⟨[97], 1, 1, []⟩ : Ce)]⟩ : Rw), (⟨1, 1, [(⟨[97], 1, 1, []⟩ : Ce), (⟨[97], 1, 1, []⟩ : Ce)]⟩ : Rw), (⟨1, 1, [(⟨[65], 1, 1, []⟩ : Ce)]⟩ : Rw), (⟨1, 1, [(⟨[97, 98, 99, 100, 101, 102, 103, 104, 105, 106, 107, 108, 109], 1, 1, []⟩ : Ce)]⟩ : Rw), (⟨1, 1, [(⟨[97, 98, 99, 100, 101, 102, 103, 104, 105, 106, 107, 108], 1, 1, []⟩ : Ce)]⟩ : Rw), (⟨1, 1, [(⟨[97], 2, 0, lg⟩ : Ce)]⟩ : Rw), (⟨1, 1, [(⟨[97], 2, 0, l4⟩ : Ce)]⟩ : Rw), (⟨1, 1, [(⟨[97], 0, 0, []⟩ : Ce)]⟩ : Rw), (⟨1, 1, [(⟨[97], 1, 0, [120]⟩ : Ce)]⟩ : Rw), (⟨1, 1, [(⟨[97], 2, 1, []⟩ : Ce)]⟩ : Rw), (⟨1, 1, NN⟩ : Rw), (⟨1, 1, (NN.take 8)⟩ : Rw), (⟨(-5), 9, [(⟨[97], 1, (-9223372036854775808), []⟩ : Ce), (⟨[98], 2, 0, []⟩ : Ce)]⟩ : Rw)]), .inr (IsSS [(⟨0, 0, []⟩ : Rw), (⟨1099511627776, 0, []⟩ : Rw), (⟨1099511627777, 0, []⟩ : Rw), (⟨(-1099511627777), 0, []⟩ : Rw), (⟨0, (-1), []⟩ : Rw), (⟨0, 1073741824, []⟩ : Rw), (⟨0, 1073741825, []⟩ : Rw), (⟨1, 1, [(⟨[98], 1, 1, []⟩ : Ce), (⟨[97], 1, 1, []⟩ : Ce)]⟩ : Rw), (⟨1, 1, [(⟨[97], 1, 1, []⟩ : Ce), (⟨[97], 1, 1, []⟩ : Ce)]⟩ : Rw), (⟨1, 1, [(⟨[65], 1, 1, []⟩ : Ce)]⟩ : Rw), (⟨1, 1, [(⟨[97, 98, 99, 100, 101, 102, 103, 104, 105, 106, 107, 108, 109], 1, 1, []⟩ : Ce)]⟩ : Rw), (⟨1, 1, [(⟨[97, 98, 99, 100, 101, 102, 103, 104, 105, 106, 107, 108], 1, 1, []⟩ : Ce)]⟩ : Rw), (⟨1, 1, [(⟨[97], 2, 0, lg⟩ : Ce)]⟩ : Rw), (⟨1, 1, [(⟨[97], 2, 0, l4⟩ : Ce)]⟩ : Rw), (⟨1, 1, [(⟨[97], 0, 0, []⟩ : Ce)]⟩ : Rw), (⟨1, 1, [(⟨[97], 1, 0, [120]⟩ : Ce)]⟩ : Rw), (⟨1, 1, [(⟨[97], 2, 1, []⟩ : Ce)]⟩ : Rw), (⟨1, 1, NN⟩ : Rw), (⟨1, 1, (NN.take 8)⟩ : Rw), (⟨(-5), 9, [(⟨[97], 1, (-9223372036854775808), []⟩ : Ce), (⟨[98], 2, 0, []⟩ : Ce)]⟩ : Rw)])] (Ex wr) Ex 336 (by kernel_rfl) rfl (by kernel_rfl) ?st hre (Ex.drew _) ?goods ?fin
      case st => exact ⟨IsRwA.stands _, IsRwA.stands _, IsRwA.stands _, IsRwA.stands _, IsRwA.stands _, IsRwA.stands _, IsRwA.stands _, IsCs.stands _, IsRwA.stands _, IsCs.stands _, IsRwA.stands _, IsCs.stands _, IsRwA.stands _, IsCs.stands _, IsRwA.stands _, IsCs.stands _, IsRwA.stands _, IsCs.stands _, IsRwA.stands _, IsCs.stands _, IsRwA.stands _, IsCs.stands _, IsRwA.stands _, IsCs.stands _, IsRwA.stands _, IsCs.stands _, IsRwA.stands _, IsRwA.stands _, IsRwA.stands _, IsCs.stands _, IsRwA.stands _, IsSS.stands _, IsSS.stands _, trivial⟩
      case goods =>
        refine Rg.goods_cons (Rg.good_row0 rfl (fun a w => by simp [execOp, go_sem, rvv, sv])) ?_
        refine Rg.goods_cons (Rg.good_row0 rfl (fun a w => by simp [execOp, go_sem, rvv, sv])) ?_
        refine Rg.goods_cons (Rg.good_row0 rfl (fun a w => by simp [execOp, go_sem, rvv, sv])) ?_
        refine Rg.goods_cons (Rg.good_row0 rfl (fun a w => by simp [execOp, go_sem, rvv, sv])) ?_
        refine Rg.goods_cons (Rg.good_row0 rfl (fun a w => by simp [execOp, go_sem, rvv, sv])) ?_
        refine Rg.goods_cons (Rg.good_row0 rfl (fun a w => by simp [execOp, go_sem, rvv, sv])) ?_
        refine Rg.goods_cons (Rg.good_row0 rfl (fun a w => by simp [execOp, go_sem, rvv, sv])) ?_
        refine Rg.goods_cons (Rg.good_call2 Try.func9 (by kernel_rfl) rfl rfl rfl (by rintro u u2 wx hC rfl rfl; exact ex_row (num_is [98] 1 wx) hC)) ?_
        refine Rg.goods_cons (Rg.good_call2 Try.func9 (by kernel_rfl) rfl rfl rfl (by rintro u u2 wx hC rfl rfl; exact ex_row (num_is [97] 1 wx) hC)) ?_
        refine Rg.goods_cons (Rg.good_cs2 rfl rfl rfl rfl) ?_
        refine Rg.goods_cons (Rg.good_call3 Try.func10 (by kernel_rfl) rfl rfl rfl (by rintro u u2 u3 wx hC rfl rfl h3; exact at_rowA (by simp) h3 hC)) ?_
        refine Rg.goods_cons (Rg.good_call2 Try.func9 (by kernel_rfl) rfl rfl rfl (by rintro u u2 wx hC rfl rfl; exact ex_row (num_is [97] 1 wx) hC)) ?_
        refine Rg.goods_cons (Rg.good_call2 Try.func9 (by kernel_rfl) rfl rfl rfl (by rintro u u2 wx hC rfl rfl; exact ex_row (num_is [97] 1 wx) hC)) ?_
        refine Rg.goods_cons (Rg.good_cs2 rfl rfl rfl rfl) ?_
        refine Rg.goods_cons (Rg.good_call3 Try.func10 (by kernel_rfl) rfl rfl rfl (by rintro u u2 u3 wx hC rfl rfl h3; exact at_rowA (by simp) h3 hC)) ?_
        refine Rg.goods_cons (Rg.good_call2 Try.func9 (by kernel_rfl) rfl rfl rfl (by rintro u u2 wx hC rfl rfl; exact ex_row (num_is [65] 1 wx) hC)) ?_
        refine Rg.goods_cons (Rg.good_cs1 rfl rfl rfl) ?_
        refine Rg.goods_cons (Rg.good_call3 Try.func10 (by kernel_rfl) rfl rfl rfl (by rintro u u2 u3 wx hC rfl rfl h3; exact at_rowA (by simp) h3 hC)) ?_
        refine Rg.goods_cons (Rg.good_call2 Try.func9 (by kernel_rfl) rfl rfl rfl (by rintro u u2 wx hC rfl rfl; exact ex_row (num_is [97, 98, 99, 100, 101, 102, 103, 104, 105, 106, 107, 108, 109] 1 wx) hC)) ?_
        refine Rg.goods_cons (Rg.good_cs1 rfl rfl rfl) ?_
        refine Rg.goods_cons (Rg.good_call3 Try.func10 (by kernel_rfl) rfl rfl rfl (by rintro u u2 u3 wx hC rfl rfl h3; exact at_rowA (by simp) h3 hC)) ?_
        refine Rg.goods_cons (Rg.good_call2 Try.func9 (by kernel_rfl) rfl rfl rfl (by rintro u u2 wx hC rfl rfl; exact ex_row (num_is [97, 98, 99, 100, 101, 102, 103, 104, 105, 106, 107, 108] 1 wx) hC)) ?_
        refine Rg.goods_cons (Rg.good_cs1 rfl rfl rfl) ?_
        refine Rg.goods_cons (Rg.good_call3 Try.func10 (by kernel_rfl) rfl rfl rfl (by rintro u u2 u3 wx hC rfl rfl h3; exact at_rowA (by simp) h3 hC)) ?_
        refine Rg.goods_cons (Rg.good_move hre rfl rfl rfl) ?_
        refine Rg.goods_cons (Rg.good_call2 Try.func11 (by kernel_rfl) rfl rfl rfl (by rintro u u2 wx hC rfl rfl; exact ex_row (strc_is [97] lg wx) hC)) ?_
        refine Rg.goods_cons (Rg.good_cs1 rfl rfl rfl) ?_
        refine Rg.goods_cons (Rg.good_call3 Try.func10 (by kernel_rfl) rfl rfl rfl (by rintro u u2 u3 wx hC rfl rfl h3; exact at_rowA (by simp) h3 hC)) ?_
        refine Rg.goods_cons (Rg.good_move hre rfl rfl rfl) ?_
        refine Rg.goods_cons (Rg.good_slice2 hre rfl rfl rfl (by rintro u wx hC rfl; exact ⟨_, str_cut40 HL4.out hlgl wx, rfl⟩)) ?_
        refine Rg.goods_cons (Rg.good_call2 Try.func11 (by kernel_rfl) rfl rfl rfl (by rintro u u2 wx hC rfl rfl; exact ex_row (strc_is [97] l4 wx) hC)) ?_
        refine Rg.goods_cons (Rg.good_cs1 rfl rfl rfl) ?_
        refine Rg.goods_cons (Rg.good_call3 Try.func10 (by kernel_rfl) rfl rfl rfl (by rintro u u2 u3 wx hC rfl rfl h3; exact at_rowA (by simp) h3 hC)) ?_
        refine Rg.goods_cons (Rg.good_known hre rfl (fun x => match x with | .const v => v | _ => undef) (cv (⟨[97], 0, 0, []⟩ : Ce)) (by simp) (fun x hx => by simp [Op.operands] at hx; first | (subst hx; rfl) | (rcases hx with rfl | rfl | rfl <;> rfl) | (rcases hx with rfl | rfl <;> rfl)) (fun w hC => by simp [execOp, go_sem, cv, str])) ?_
        refine Rg.goods_cons (Rg.good_cs1 rfl rfl rfl) ?_
        refine Rg.goods_cons (Rg.good_call3 Try.func10 (by kernel_rfl) rfl rfl rfl (by rintro u u2 u3 wx hC rfl rfl h3; exact at_rowA (by simp) h3 hC)) ?_
        refine Rg.goods_cons (Rg.good_known hre rfl (fun x => match x with | .const v => v | _ => undef) (cv (⟨[97], 1, 0, [120]⟩ : Ce)) (by simp) (fun x hx => by simp [Op.operands] at hx; first | (subst hx; rfl) | (rcases hx with rfl | rfl | rfl <;> rfl) | (rcases hx with rfl | rfl <;> rfl)) (fun w hC => by simp [execOp, go_sem, cv, str])) ?_
        refine Rg.goods_cons (Rg.good_cs1 rfl rfl rfl) ?_
        refine Rg.goods_cons (Rg.good_call3 Try.func10 (by kernel_rfl) rfl rfl rfl (by rintro u u2 u3 wx hC rfl rfl h3; exact at_rowA (by simp) h3 hC)) ?_
        refine Rg.goods_cons (Rg.good_known hre rfl (fun x => match x with | .const v => v | _ => undef) (cv (⟨[97], 2, 1, []⟩ : Ce)) (by simp) (fun x hx => by simp [Op.operands] at hx; first | (subst hx; rfl) | (rcases hx with rfl | rfl | rfl <;> rfl) | (rcases hx with rfl | rfl <;> rfl)) (fun w hC => by simp [execOp, go_sem, cv, str])) ?_
        refine Rg.goods_cons (Rg.good_cs1 rfl rfl rfl) ?_
        refine Rg.goods_cons (Rg.good_call3 Try.func10 (by kernel_rfl) rfl rfl rfl (by rintro u u2 u3 wx hC rfl rfl h3; exact at_rowA (by simp) h3 hC)) ?_
        refine Rg.goods_cons (Rg.good_move hre rfl rfl rfl) ?_
        refine Rg.goods_cons (Rg.good_call3 Try.func10 (by kernel_rfl) rfl rfl rfl (by rintro u u2 u3 wx hC rfl rfl rfl; exact at_rowA (by have := HNl.out; simp; omega) ⟨an, cn, by rw [HNl.out], RdW.below HRn.out hC⟩ hC)) ?_
        refine Rg.goods_cons (Rg.good_move hre rfl rfl rfl) ?_
        refine Rg.goods_cons (Rg.good_slice2 hre rfl rfl rfl (by rintro u wx hC rfl; exact ⟨_, by go_simp, rfl⟩)) ?_
        refine Rg.goods_cons (Rg.good_call3 Try.func10 (by kernel_rfl) rfl rfl rfl (by rintro u u2 u3 wx hC rfl rfl rfl; exact at_rowA (by have := HNl.out; simp; omega) ⟨an, cn, by have := HNl.out; simp [HNl.out], RdW.take (RdW.below HRn.out hC) 8⟩ hC)) ?_
        refine Rg.goods_cons (Rg.good_call2 Try.func9 (by kernel_rfl) rfl rfl rfl (by rintro u u2 wx hC rfl rfl; exact ex_row (num_is [97] (-9223372036854775808) wx) hC)) ?_
        refine Rg.goods_cons (Rg.good_call2 Try.func11 (by kernel_rfl) rfl rfl rfl (by rintro u u2 wx hC rfl rfl; exact ex_row (strc_is [98] [] wx) hC)) ?_
        refine Rg.goods_cons (Rg.good_cs2 rfl rfl rfl rfl) ?_
        refine Rg.goods_cons (Rg.good_call3 Try.func10 (by kernel_rfl) rfl rfl rfl (by rintro u u2 u3 wx hC rfl rfl h3; exact at_rowA (by simp) h3 hC)) ?_
        refine Rg.goods_cons (Rg.good_r20 rfl rfl rfl rfl rfl rfl rfl rfl rfl rfl rfl rfl rfl rfl rfl rfl rfl rfl rfl rfl rfl rfl) ?_
        refine Rg.goods_cons (Rg.good_assign hre rfl rfl rfl) ?_
        exact Rg.goods_nil
      case fin =>
        intro wx hx
        simp only [Rg.later, Act.put, List.setIfInBounds_toArray, List.set_cons_succ, List.set_cons_zero]
        intro vin0 hin0 vin1 hin1 vin2 hin2 vin3 hin3 vin4 hin4 vin5 hin5 vin6 hin6 vin7 hin7 vin8 hin8 vin9 hin9 vin10 hin10 vin11 hin11 vin12 hin12 vin13 hin13 vin14 hin14 vin15 hin15 vin16 hin16 vin17 hin17 vin18 hin18 vin19 hin19 vin20 hin20 vin21 hin21 vin22 hin22 vin23 hin23 vin24 hin24 vin25 hin25 vin26 hin26 vin27 hin27 vin28 hin28 vin29 hin29 vin30 hin30 vin31 hin31 vin32 hin32
        obtain ⟨gS, hvS, hrS⟩ := hin32
        subst hvS
        clear hin0 hin1 hin2 hin3 hin4 hin5 hin6 hin7 hin8 hin9 hin10 hin11 hin12 hin13 hin14 hin15 hin16 hin17 hin18 hin19 hin20 hin21 hin22 hin23 hin24 hin25 hin26 hin27 hin28 hin29 hin30 hin31
        obtain ⟨SS, hSS⟩ : ∃ SS, [(⟨0, 0, []⟩ : Rw), (⟨1099511627776, 0, []⟩ : Rw), (⟨1099511627777, 0, []⟩ : Rw), (⟨(-1099511627777), 0, []⟩ : Rw), (⟨0, (-1), []⟩ : Rw), (⟨0, 1073741824, []⟩ : Rw), (⟨0, 1073741825, []⟩ : Rw), (⟨1, 1, [(⟨[98], 1, 1, []⟩ : Ce), (⟨[97], 1, 1, []⟩ : Ce)]⟩ : Rw), (⟨1, 1, [(⟨[97], 1, 1, []⟩ : Ce), (⟨[97], 1, 1, []⟩ : Ce)]⟩ : Rw), (⟨1, 1, [(⟨[65], 1, 1, []⟩ : Ce)]⟩ : Rw), (⟨1, 1, [(⟨[97, 98, 99, 100, 101, 102, 103, 104, 105, 106, 107, 108, 109], 1, 1, []⟩ : Ce)]⟩ : Rw), (⟨1, 1, [(⟨[97, 98, 99, 100, 101, 102, 103, 104, 105, 106, 107, 108], 1, 1, []⟩ : Ce)]⟩ : Rw), (⟨1, 1, [(⟨[97], 2, 0, lg⟩ : Ce)]⟩ : Rw), (⟨1, 1, [(⟨[97], 2, 0, l4⟩ : Ce)]⟩ : Rw), (⟨1, 1, [(⟨[97], 0, 0, []⟩ : Ce)]⟩ : Rw), (⟨1, 1, [(⟨[97], 1, 0, [120]⟩ : Ce)]⟩ : Rw), (⟨1, 1, [(⟨[97], 2, 1, []⟩ : Ce)]⟩ : Rw), (⟨1, 1, NN⟩ : Rw), (⟨1, 1, (NN.take 8)⟩ : Rw), (⟨(-5), 9, [(⟨[97], 1, (-9223372036854775808), []⟩ : Ce), (⟨[98], 2, 0, []⟩ : Ce)]⟩ : Rw)] = SS := ⟨_, rfl⟩
        rw [hSS] at hrS
        have HRS : Hid (RdR wx (some ⟨gS, 0, none⟩) 20 SS) := hrS
        have HSl : Hid (SS.length = 20) := (by rw [← hSS]; rfl : SS.length = 20)
        have HS19 : Hid (SS[19]? = some (⟨(-5), 9, [(⟨[97], 1, (-9223372036854775808), []⟩ : Ce), (⟨[98], 2, 0, []⟩ : Ce)]⟩ : Rw)) := (by rw [← hSS]; rfl : SS[19]? = some (⟨(-5), 9, [(⟨[97], 1, (-9223372036854775808), []⟩ : Ce), (⟨[98], 2, 0, []⟩ : Ce)]⟩ : Rw))
        have HSok : Hid (∀ r ∈ SS, RwOk r) := (by
          intro r hr
          rw [← hSS] at hr
          simp only [List.mem_cons, List.not_mem_nil, or_false] at hr
          rcases hr with rfl | rfl | rfl | rfl | rfl | rfl | rfl | rfl | rfl | rfl | rfl | rfl | rfl | rfl | rfl | rfl | rfl | rfl | rfl | rfl
          · exact Sm.ok ⟨by decide, by decide⟩ ⟨by decide, by decide⟩ (fun c hc => absurd hc (by simp))
          · exact Sm.ok ⟨by decide, by decide⟩ ⟨by decide, by decide⟩ (fun c hc => absurd hc (by simp))
          · exact Sm.ok ⟨by decide, by decide⟩ ⟨by decide, by decide⟩ (fun c hc => absurd hc (by simp))
          · exact Sm.ok ⟨by decide, by decide⟩ ⟨by decide, by decide⟩ (fun c hc => absurd hc (by simp))
          · exact Sm.ok ⟨by decide, by decide⟩ ⟨by decide, by decide⟩ (fun c hc => absurd hc (by simp))
          · exact Sm.ok ⟨by decide, by decide⟩ ⟨by decide, by decide⟩ (fun c hc => absurd hc (by simp))
          · exact Sm.ok ⟨by decide, by decide⟩ ⟨by decide, by decide⟩ (fun c hc => absurd hc (by simp))
          · exact Sm.ok ⟨by decide, by decide⟩ ⟨by decide, by decide⟩ (fun c hc => by simp only [List.mem_cons, List.not_mem_nil, or_false] at hc; rcases hc with rfl | rfl; exact ⟨by simp, by simp, ⟨by decide, by decide⟩, ⟨by decide, by decide⟩⟩; exact ⟨by simp, by simp, ⟨by decide, by decide⟩, ⟨by decide, by decide⟩⟩)
          · exact Sm.ok ⟨by decide, by decide⟩ ⟨by decide, by decide⟩ (fun c hc => by simp only [List.mem_cons, List.not_mem_nil, or_false, or_self] at hc; subst hc; exact ⟨by simp, by simp, ⟨by decide, by decide⟩, ⟨by decide, by decide⟩⟩)
          · exact Sm.ok ⟨by decide, by decide⟩ ⟨by decide, by decide⟩ (fun c hc => by simp only [List.mem_cons, List.not_mem_nil, or_false] at hc; subst hc; exact ⟨by simp, by simp, ⟨by decide, by decide⟩, ⟨by decide, by decide⟩⟩)
          · exact Sm.ok ⟨by decide, by decide⟩ ⟨by decide, by decide⟩ (fun c hc => by simp only [List.mem_cons, List.not_mem_nil, or_false] at hc; subst hc; exact ⟨by simp, by simp, ⟨by decide, by decide⟩, ⟨by decide, by decide⟩⟩)
          · exact Sm.ok ⟨by decide, by decide⟩ ⟨by decide, by decide⟩ (fun c hc => by simp only [List.mem_cons, List.not_mem_nil, or_false] at hc; subst hc; exact ⟨by simp, by simp, ⟨by decide, by decide⟩, ⟨by decide, by decide⟩⟩)
          · exact Sm.ok ⟨by decide, by decide⟩ ⟨by decide, by decide⟩ (fun c hc => by simp only [List.mem_cons, List.not_mem_nil, or_false] at hc; subst hc; exact ⟨by simp, by simp only; omega, (show In64 2 from ⟨by decide, by decide⟩), (show In64 0 from ⟨by decide, by decide⟩)⟩)
          · exact Sm.ok ⟨by decide, by decide⟩ ⟨by decide, by decide⟩ (fun c hc => by simp only [List.mem_cons, List.not_mem_nil, or_false] at hc; subst hc; exact ⟨by simp, by simp only; omega, (show In64 2 from ⟨by decide, by decide⟩), (show In64 0 from ⟨by decide, by decide⟩)⟩)
          · exact Sm.ok ⟨by decide, by decide⟩ ⟨by decide, by decide⟩ (fun c hc => by simp only [List.mem_cons, List.not_mem_nil, or_false] at hc; subst hc; exact ⟨by simp, by simp, ⟨by decide, by decide⟩, ⟨by decide, by decide⟩⟩)
          · exact Sm.ok ⟨by decide, by decide⟩ ⟨by decide, by decide⟩ (fun c hc => by simp only [List.mem_cons, List.not_mem_nil, or_false] at hc; subst hc; exact ⟨by simp, by simp, ⟨by decide, by decide⟩, ⟨by decide, by decide⟩⟩)
          · exact Sm.ok ⟨by decide, by decide⟩ ⟨by decide, by decide⟩ (fun c hc => by simp only [List.mem_cons, List.not_mem_nil, or_false] at hc; subst hc; exact ⟨by simp, by simp, ⟨by decide, by decide⟩, ⟨by decide, by decide⟩⟩)
          · exact Sm.ok ⟨by decide, by decide⟩ ⟨by decide, by decide⟩ HNs.out
          · exact Sm.ok ⟨by decide, by decide⟩ ⟨by decide, by decide⟩ (fun c hc => HNs.out c (List.mem_of_mem_take hc))
          · exact Sm.ok ⟨by decide, by decide⟩ ⟨by decide, by decide⟩ (fun c hc => by simp only [List.mem_cons, List.not_mem_nil, or_false] at hc; rcases hc with rfl | rfl; exact ⟨by simp, by simp, ⟨by decide, by decide⟩, ⟨by decide, by decide⟩⟩; exact ⟨by simp, by simp, ⟨by decide, by decide⟩, ⟨by decide, by decide⟩⟩) : ∀ r ∈ SS, RwOk r)
        have HXx : Hid (Ex w wx) := HXw.out.trans hx
        clear hSS hrS hx
        go_wp2_with fail
        go_loopw [5] (fun vi wr => ∃ j : Nat, j ≤ 20 ∧ vi = .int .i64 j ∧ Hid (Ex wx wr)) (fun vi wr => 20 - (intOf vi).toNat)
        case atStart => exact ⟨0, by omega, rfl, Ex.refl _⟩
        case round =>
          obtain ⟨j, hj, rfl, HXr⟩ := hrel
          by_cases hlt : j < 20
          · have tj : decide ((j : Int) < 20) = true := by simp; omega
            have tj2 : decide (j < 20) = true := by simp; omega
            have hjS : j < SS.length := by rw [HSl.out]; exact hlt
            obtain ⟨r, hr⟩ : ∃ r, SS[j] = r := ⟨_, rfl⟩
            have HOk : Hid (RwOk r) := HSok.out r (by rw [← hr]; exact List.getElem_mem hjS)
            obtain ⟨b', o', pr, cr, hpL, g0, g1, g2, hrd⟩ := (HRS.out.below HXr.out).at hjS
            simp only [Option.some.injEq, Addr.mk.injEq, and_true] at hpL
            obtain ⟨rfl, rfl⟩ := hpL
            rw [hr] at g0 g1 g2 hrd
            simp only [Nat.zero_add] at g0 g1 g2
            have HRd : Hid (RdC wr pr cr r.c) := hrd
            obtain ⟨⟨R, y0⟩, henc⟩ : ∃ z, Rw.encE r = z := ⟨_, rfl⟩
            have HE : Hid (Rw.encE r = (R, y0)) := henc
            obtain ⟨hRl, hy0⟩ := Rw.encE_len henc
            obtain ⟨rr, hrr⟩ : ∃ x, Rw.right r = x := ⟨_, rfl⟩
            have HRr : Hid (Rw.right r = rr) := hrr
            obtain ⟨⟨R2, k2, e2⟩, hdec⟩ : ∃ z, Rw.dec R 0 = z := ⟨_, rfl⟩
            have HD : Hid (Rw.dec R 0 = (R2, k2, e2)) := hdec
            clear hr hrd henc hrr hdec
            go_wp2_with fail
            refine (f_enc ⟨r.t, r.q, pr, r.c.length, cr⟩ r _ ⟨rfl, rfl, rfl, HRd.out⟩ HOk.out R y0 HE.out).mono ?_
            rintro e wF ⟨pf, cf, rfl, hbf, hxF⟩
            have HXF : Hid (Ex wr wF) := hxF
            have HBf : Hid (Byt wF pf cf R) := hbf
            have g0' := cell_ex g0 hxF
            have g1' := cell_ex g1 hxF
            have g2' := cell_ex g2 hxF
            clear hxF hbf
            go_wp2_with fail
            refine (rrenc_own ⟨r.t, r.q, pr, r.c.length, cr⟩ r _ ⟨rfl, rfl, rfl, RdW.below HRd.out HXF.out⟩ HOk.out R y0 HE.out).mono ?_
            rintro e wG ⟨u, rfl, hou, hxG⟩
            obtain ⟨pg, cg, hvg, hbg⟩ := hou.byt
            subst hvg
            have HXG : Hid (Ex wr wG) := HXF.out.trans hxG
            have HBfG : Hid (Byt wG pf cf R) := HBf.out.below hxG
            have HBg : Hid (Byt wG pg cg R) := hbg
            have hcg := hbg.1
            have hcg2 := hbg.2.1
            unfold maxLen at hcg2
            have n0 := cell_ex g0 HXG.out
            have n1 := cell_ex g1 HXG.out
            have n2 := cell_ex g2 HXG.out
            have HRdG : Hid (RdC wG pr cr r.c) := RdW.below HRd.out HXG.out
            clear hxG hou hbg g0 g1 g2 g0' g1' g2'
            go_wp2_with fail
            have hre := Ex.refl
            refine Rg.wp_rows [.inl (Value.slice (some ⟨gS, 0, none⟩) 20 20), .inl (Value.int .i64 j), .inl (Value.pointer (some ⟨gS, j * 3, none⟩)), .inl (rvv ⟨r.t, r.q, pr, r.c.length, cr⟩), .inl (.bool rr), .inl (Value.slice (some ⟨gS, 0, none⟩) 20 20), .inl (Value.int .i64 j), .inl (Value.pointer (some ⟨gS, j * 3, none⟩)), .inl (rvv ⟨r.t, r.q, pr, r.c.length, cr⟩), .inl (.bool rr), .inl (.bool false), .inl (.bool false), .inl (Value.slice pf R.length cf), .inl (.string (str R)), .inl (Value.slice pg R.length cg), .inl (.string (str R)), .inl (.bool false), .inl (.bool false), .inl (.bool false), .inl (Value.int .i64 y0), .inl (Value.int .i64 y0), .inl (.bool false), .inl (.bool false)] (Ex wG) Ex 336 (by kernel_rfl) rfl (by kernel_rfl) ?st hre (Ex.drew _) ?goods ?fin
            case st => exact trivial
            case goods =>
              refine Rg.goods_cons (Rg.good_move hre rfl rfl rfl) ?_
              refine Rg.goods_cons (Rg.good_move hre rfl rfl rfl) ?_
              refine Rg.goods_cons (Rg.good_index hre rfl rfl rfl rfl (fun wx hC => by first | (go_simp; done) | (go_simp; intro h; exfalso; omega))) ?_
              refine Rg.goods_cons (Rg.good_load hre rfl rfl rfl (fun wx hC => by exact loadI_row (cell_ex n0 hC) (cell_ex n1 hC) (cell_ex n2 hC))) ?_
              refine Rg.goods_cons (Rg.good_call1 Try.func14 (by kernel_rfl) rfl rfl rfl (by rintro u wx hC rfl; exact ex_row (f_right ⟨r.t, r.q, pr, r.c.length, cr⟩ r wx ⟨rfl, rfl, rfl, RdW.below HRdG.out hC⟩ HOk.out rr HRr.out) hC)) ?_
              refine Rg.goods_cons (Rg.good_move hre rfl rfl rfl) ?_
              refine Rg.goods_cons (Rg.good_move hre rfl rfl rfl) ?_
              refine Rg.goods_cons (Rg.good_index hre rfl rfl rfl rfl (fun wx hC => by first | (go_simp; done) | (go_simp; intro h; exfalso; omega))) ?_
              refine Rg.goods_cons (Rg.good_load hre rfl rfl rfl (fun wx hC => by exact loadI_row (cell_ex n0 hC) (cell_ex n1 hC) (cell_ex n2 hC))) ?_
              refine Rg.goods_cons (Rg.good_call1 Try.func15 (by kernel_rfl) rfl rfl rfl (by rintro u wx hC rfl; exact ex_row (rright_is ⟨r.t, r.q, pr, r.c.length, cr⟩ r wx ⟨rfl, rfl, rfl, RdW.below HRdG.out hC⟩ (fun c hc => ⟨(HOk.out.2.2 c hc).1, (HOk.out.2.2 c hc).2.1⟩) rr HRr.out) hC)) ?_
              refine Rg.goods_cons (Rg.good_bin hre rfl rfl rfl rfl (fun _ => rfl) (fun w => by cases rr <;> go_simp)) ?_
              refine Rg.goods_cons (Rg.good_move hre rfl rfl rfl) ?_
              refine Rg.goods_cons (Rg.good_move hre rfl rfl rfl) ?_
              refine Rg.goods_cons (Rg.good_conv hre rfl rfl (by rintro u wx hC rfl; exact run_str (HBfG.out.below hC) rfl)) ?_
              refine Rg.goods_cons (Rg.good_move hre rfl rfl rfl) ?_
              refine Rg.goods_cons (Rg.good_conv hre rfl rfl (by rintro u wx hC rfl; exact run_str (HBg.out.below hC) rfl)) ?_
              refine Rg.goods_cons (Rg.good_bin hre rfl rfl rfl rfl (fun _ => rfl) (fun w => by go_simp)) ?_
              refine Rg.goods_cons (Rg.good_pick false hre rfl rfl rfl rfl) ?_
              refine Rg.goods_cons (Rg.good_move hre rfl rfl rfl) ?_
              refine Rg.goods_cons (Rg.good_move hre rfl rfl rfl) ?_
              refine Rg.goods_cons (Rg.good_move hre rfl rfl rfl) ?_
              refine Rg.goods_cons (Rg.good_bin hre rfl rfl rfl rfl (fun _ => rfl) (fun w => by go_simp)) ?_
              refine Rg.goods_cons (Rg.good_pick false hre rfl rfl rfl rfl) ?_
              exact Rg.goods_nil
            case fin =>
              intro wy hx
              simp only [Rg.later, Act.put, List.setIfInBounds_toArray, List.set_cons_succ, List.set_cons_zero]
              have HXy : Hid (Ex wx wy) := HXr.out.trans (HXG.out.trans hx)
              have HBgx : Hid (Byt wy pg cg R) := HBg.out.below hx
              clear hx
              go_wp2_with fail
              refine (f_dec pg _ cg R 0 _ rfl HBgx.out (by omega) ⟨by omega, by omega⟩ R2 k2 e2 HD.out).mono ?_
              rintro e wd ⟨sz, cz, rfl, hbz, hxz⟩
              obtain ⟨we, hwe⟩ : ∃ we, wd.alloc (Obj.cells #[Value.int IntKind.i64 R2.t, Value.int IntKind.i64 R2.q, Value.slice sz R2.c.length cz] 28) = we := ⟨_, rfl⟩
              have hxe : Ex wd we := by rw [← hwe]; exact (Below.refl _ _).alloc (Nat.le_refl _) _
              have HXe : Hid (Ex wy we) := hxz.trans hxe
              have HLz : Hid (LAt we wd.heap.size ⟨R2.t, R2.q, sz, R2.c.length, cz⟩) := (by rw [← hwe]; exact LAt.new wd ⟨R2.t, R2.q, sz, R2.c.length, cz⟩ : LAt we wd.heap.size ⟨R2.t, R2.q, sz, R2.c.length, cz⟩)
              have HBz : Hid (RdC we sz cz R2.c) := RdW.below hbz hxe
              have HWe : Hid (wd.alloc (Obj.cells #[Value.int IntKind.i64 R2.t, Value.int IntKind.i64 R2.q, Value.slice sz R2.c.length cz] 28) = we) := hwe
              clear hbz hxz hxe hwe
              simp only [rvv, sv]
              go_wp2_with fail
              rw [HWe.out]
              refine (rrdec_is pg _ cg R 0 _ rfl (HBgx.out.below HXe.out) R2 k2 e2 HD.out).mono ?_
              rintro e wf ⟨sy, cy, rfl, hoy, hxf⟩
              obtain ⟨ay, cy', hvy, hry⟩ := hoy.rd cc_len
              simp only [Value.slice.injEq] at hvy
              obtain ⟨rfl, _, rfl⟩ := hvy
              obtain ⟨wg, hwg⟩ : ∃ wg, wf.alloc (Obj.cells #[Value.int IntKind.i64 R2.t, Value.int IntKind.i64 R2.q, Value.slice sy R2.c.length cy] 28) = wg := ⟨_, rfl⟩
              have hxg : Ex wf wg := by rw [← hwg]; exact (Below.refl _ _).alloc (Nat.le_refl _) _
              have HXg : Hid (Ex wy wg) := HXe.out.trans (hxf.trans hxg)
              have HLzg : Hid (LAt wg wd.heap.size ⟨R2.t, R2.q, sz, R2.c.length, cz⟩) := HLz.out.below (hxf.trans hxg)
              have HBzg : Hid (RdC wg sz cz R2.c) := RdW.below HBz.out (hxf.trans hxg)
              have HByg : Hid (RdC wg sy cy R2.c) := RdW.below hry hxg
              have HWg : Hid (wf.alloc (Obj.cells #[Value.int IntKind.i64 R2.t, Value.int IntKind.i64 R2.q, Value.slice sy R2.c.length cy] 28) = wg) := hwg
              obtain ⟨t0, t1', t2'⟩ := HLzg.out.all
              simp only at t0 t1' t2'
              have u0 : (wf.alloc (Obj.cells #[Value.int IntKind.i64 R2.t, Value.int IntKind.i64 R2.q, Value.slice sy R2.c.length cy] 28)).cell? ⟨wd.heap.size, 0, none⟩ = some (.int .i64 R2.t) := by rw [hwg]; exact t0
              have u1 : (wf.alloc (Obj.cells #[Value.int IntKind.i64 R2.t, Value.int IntKind.i64 R2.q, Value.slice sy R2.c.length cy] 28)).cell? ⟨wd.heap.size, 1, none⟩ = some (.int .i64 R2.q) := by rw [hwg]; exact t1'
              have u2 : (wf.alloc (Obj.cells #[Value.int IntKind.i64 R2.t, Value.int IntKind.i64 R2.q, Value.slice sy R2.c.length cy] 28)).cell? ⟨wd.heap.size, 2, none⟩ = some (.slice sz R2.c.length cz) := by rw [hwg]; exact t2'
              clear hoy hry hxf hxg hwg t0 t1' t2'
              simp only [rvv, sv]
              go_wp2_with fail
              rw [HWg.out]
              clear u0 u1 u2
              refine (krow_is R2 R2 sz cz sy cy _ HBzg.out HByg.out true (by simp)).mono ?_
              rintro e wh ⟨rfl, hxh⟩
              have HXh : Hid (Ex wy wh) := HXg.out.trans hxh
              clear hxh
              go_wp2_with fail
              go_roundw
              case rel => exact ⟨j + 1, by omega, by go_num, HXy.out.trans HXh.out⟩
              case measure => simp [intOf]; omega
          · obtain rfl : j = 20 := by omega
            rw [show ((20 : Nat) : Int) = (20 : Int) from rfl]
            have HXs : Hid (Ex w wr) := HXx.out.trans HXr.out
            have HRSr : Hid (RdR wr (some ⟨gS, 0, none⟩) 20 SS) := HRS.out.below HXr.out
            go_wp2_with fail
            obtain ⟨WT, hWT, hxT, hEach⟩ := nine_laid wr
            rw [hWT]
            have HXT : Hid (Ex w WT) := HXs.out.trans hxT
            have HRST : Hid (RdR WT (some ⟨gS, 0, none⟩) 20 SS) := HRSr.out.below hxT
            have HEach : Hid (∀ j, j < 9 → ∃ g l, WT.cell? ⟨wr.heap.size + 1 + 1 + 1 + 1 + 1 + 1 + 1 + 1 + 1, j, none⟩ = some (.slice (some ⟨g, 0, none⟩) (List.length l) (List.length l)) ∧ Byt WT (some ⟨g, 0, none⟩) (List.length l) l ∧ l.length ≤ 11) := hEach
            clear hWT hxT hEach
            obtain ⟨gT, hgT⟩ : ∃ g, wr.heap.size + 1 + 1 + 1 + 1 + 1 + 1 + 1 + 1 + 1 = g := ⟨_, rfl⟩
            rw [hgT]
            rw [hgT] at HEach
            clear hgT
            go_loopw [186] (fun vi wr => ∃ j : Nat, j ≤ 9 ∧ vi = .int .i64 j ∧ Hid (Ex WT wr)) (fun vi wr => 9 - (intOf vi).toNat)
            case atStart => exact ⟨0, by omega, rfl, Ex.refl _⟩
            case round =>
              obtain ⟨j, hj, rfl, HXr⟩ := hrel
              by_cases hlt : j < 9
              · have tj : decide ((j : Int) < 9) = true := by simp; omega
                have tj2 : decide (j < 9) = true := by simp; omega
                obtain ⟨gj, lj, hc0, hbj, hlj⟩ := HEach.out j hlt
                have hc0' := cell_ex hc0 HXr.out
                have HBj : Hid (Byt wr (some ⟨gj, 0, none⟩) lj.length lj) := hbj.below HXr.out
                obtain ⟨⟨R2, k2, e2⟩, hdec⟩ : ∃ z, Rw.dec lj 0 = z := ⟨_, rfl⟩
                have HD : Hid (Rw.dec lj 0 = (R2, k2, e2)) := hdec
                clear hc0 hbj hdec
                go_wp2_with fail
                refine (f_dec (some ⟨gj, 0, none⟩) _ lj.length lj 0 _ rfl HBj.out (by omega) ⟨by omega, by omega⟩ R2 k2 e2 HD.out).mono ?_
                rintro e wd ⟨sz, cz, rfl, hbz, hxz⟩
                obtain ⟨we, hwe⟩ : ∃ we, wd.alloc (Obj.cells #[Value.int IntKind.i64 R2.t, Value.int IntKind.i64 R2.q, Value.slice sz R2.c.length cz] 28) = we := ⟨_, rfl⟩
                have hxe : Ex wd we := by rw [← hwe]; exact (Below.refl _ _).alloc (Nat.le_refl _) _
                have HXe : Hid (Ex wr we) := hxz.trans hxe
                have HLz : Hid (LAt we wd.heap.size ⟨R2.t, R2.q, sz, R2.c.length, cz⟩) := (by rw [← hwe]; exact LAt.new wd ⟨R2.t, R2.q, sz, R2.c.length, cz⟩ : LAt we wd.heap.size ⟨R2.t, R2.q, sz, R2.c.length, cz⟩)
                have HBz : Hid (RdC we sz cz R2.c) := RdW.below hbz hxe
                have HWe : Hid (wd.alloc (Obj.cells #[Value.int IntKind.i64 R2.t, Value.int IntKind.i64 R2.q, Value.slice sz R2.c.length cz] 28) = we) := hwe
                clear hbz hxz hxe hwe
                simp only [rvv, sv]
                go_wp2_with fail
                rw [HWe.out]
                refine (rrdec_is (some ⟨gj, 0, none⟩) _ lj.length lj 0 _ rfl (HBj.out.below HXe.out) R2 k2 e2 HD.out).mono ?_
                rintro e wf ⟨sy, cy, rfl, hoy, hxf⟩
                obtain ⟨ay, cy', hvy, hry⟩ := hoy.rd cc_len
                simp only [Value.slice.injEq] at hvy
                obtain ⟨rfl, _, rfl⟩ := hvy
                obtain ⟨wg, hwg⟩ : ∃ wg, wf.alloc (Obj.cells #[Value.int IntKind.i64 R2.t, Value.int IntKind.i64 R2.q, Value.slice sy R2.c.length cy] 28) = wg := ⟨_, rfl⟩
                have hxg : Ex wf wg := by rw [← hwg]; exact (Below.refl _ _).alloc (Nat.le_refl _) _
                have HXg : Hid (Ex wr wg) := HXe.out.trans (hxf.trans hxg)
                have HLzg : Hid (LAt wg wd.heap.size ⟨R2.t, R2.q, sz, R2.c.length, cz⟩) := HLz.out.below (hxf.trans hxg)
                have HBzg : Hid (RdC wg sz cz R2.c) := RdW.below HBz.out (hxf.trans hxg)
                have HByg : Hid (RdC wg sy cy R2.c) := RdW.below hry hxg
                have HWg : Hid (wf.alloc (Obj.cells #[Value.int IntKind.i64 R2.t, Value.int IntKind.i64 R2.q, Value.slice sy R2.c.length cy] 28) = wg) := hwg
                obtain ⟨t0, t1', t2'⟩ := HLzg.out.all
                simp only at t0 t1' t2'
                have u0 : (wf.alloc (Obj.cells #[Value.int IntKind.i64 R2.t, Value.int IntKind.i64 R2.q, Value.slice sy R2.c.length cy] 28)).cell? ⟨wd.heap.size, 0, none⟩ = some (.int .i64 R2.t) := by rw [hwg]; exact t0
                have u1 : (wf.alloc (Obj.cells #[Value.int IntKind.i64 R2.t, Value.int IntKind.i64 R2.q, Value.slice sy R2.c.length cy] 28)).cell? ⟨wd.heap.size, 1, none⟩ = some (.int .i64 R2.q) := by rw [hwg]; exact t1'
                have u2 : (wf.alloc (Obj.cells #[Value.int IntKind.i64 R2.t, Value.int IntKind.i64 R2.q, Value.slice sy R2.c.length cy] 28)).cell? ⟨wd.heap.size, 2, none⟩ = some (.slice sz R2.c.length cz) := by rw [hwg]; exact t2'
                clear hoy hry hxf hxg hwg t0 t1' t2'
                simp only [rvv, sv]
                go_wp2_with fail
                rw [HWg.out]
                clear u0 u1 u2
                refine (krow_is R2 R2 sz cz sy cy _ HBzg.out HByg.out true (by simp)).mono ?_
                rintro e wh ⟨rfl, hxh⟩
                have HXh : Hid (Ex wr wh) := HXg.out.trans hxh
                clear hxh
                go_wp2_with fail
                go_roundw
                case rel => exact ⟨j + 1, by omega, by go_num, HXr.out.trans HXh.out⟩
                case measure => simp [intOf]; omega
              · obtain rfl : j = 9 := by omega
                rw [show ((9 : Nat) : Int) = (9 : Int) from rfl]
                have HX3 : Hid (Ex w wr) := HXT.out.trans HXr.out
                have HRS3 : Hid (RdR wr (some ⟨gS, 0, none⟩) 20 SS) := HRST.out.below HXr.out
                obtain ⟨W3, hW3⟩ : ∃ W, W = wr := ⟨_, rfl⟩
                subst hW3
                have hO0 : OwnK W3 W3.heap.size (.slice none 0 0) [] := ownW_none W3 _
                go_wp2_with fail
                go_loopw [24, 25] (fun v vi wr => ∃ j : Nat, j ≤ 12 ∧ vi = .int .i64 j ∧ Hid (∃ vv : Value, vv = v ∧ OwnK wr W3.heap.size vv (tw j)) ∧ Hid (Ex W3 wr)) (fun v vi wr => 12 - (intOf vi).toNat)
                case atStart => exact ⟨0, by omega, rfl, (⟨_, rfl, hO0⟩ : ∃ vv : Value, vv = .slice none 0 0 ∧ OwnK W3 W3.heap.size vv (tw 0)), Ex.refl _⟩
                case round =>
                  obtain ⟨j, hj, rfl, HV, HXr⟩ := hrel
                  obtain ⟨vv, hvv, hOwn⟩ := HV.out
                  subst hvv
                  have HOwn : Hid (OwnK wr W3.heap.size vv (tw j)) := hOwn
                  clear HV hOwn hO0
                  by_cases hlt : j < 12
                  · have t1 : decide ((j : Int) < 12) = true := by simp; omega
                    have t2 : decide (j < 12) = true := by simp; omega
                    have hcx := rune_at hlt wr
                    obtain ⟨x1, hx1⟩ : ∃ x : Int, 97 + (j : Int) = x := ⟨_, rfl⟩
                    rw [hx1] at hcx
                    have hx1a : 97 ≤ x1 := by omega
                    have hx1b : x1 ≤ 200 := by omega
                    have hcat := cat_c j
                    obtain ⟨nmj, hnm⟩ : ∃ l, [99, ltr j] = l := ⟨_, rfl⟩
                    rw [hnm] at hcat
                    obtain ⟨lt, hlt2⟩ : ∃ l, [ltr j] = l := ⟨_, rfl⟩
                    rw [hlt2] at hcx hcat
                    have hz1 : (str lt).size = 1 := by rw [← hlt2]; rfl
                    obtain ⟨q2, hq2⟩ : ∃ q : Nat, j % 2 = q := ⟨_, rfl⟩
                    have hq2i : (j : Int) % 2 = (q2 : Int) := by omega
                    have hq2b : q2 ≤ 1 := by omega
                    obtain ⟨k2, hk2⟩ : ∃ k : Int, 1 + (q2 : Int) = k := ⟨_, rfl⟩
                    have HTw : Hid (tw (j + 1) = tw j ++ [⟨nmj, k2⟩]) := (by rw [tw_succ, hnm, hq2, hk2] : tw (j + 1) = tw j ++ [⟨nmj, k2⟩])
                    have HR3 : Hid (RdK (wr.alloc (kb ⟨nmj, k2⟩)) (some ⟨wr.heap.size, 0, none⟩) 1 [⟨nmj, k2⟩]) := RdW.laid (t := 46) kc_len wr [⟨nmj, k2⟩] (by simp)
                    have HX4 : Hid (Ex wr (wr.alloc (kb ⟨nmj, k2⟩))) := (Below.refl _ _).alloc (Nat.le_refl _) _
                    have HO4 : Hid (OwnK (wr.alloc (kb ⟨nmj, k2⟩)) W3.heap.size vv (tw j)) := OwnW.later HOwn.out HX4.out
                    have hbs : W3.heap.size ≤ (wr.alloc (kb ⟨nmj, k2⟩)).heap.size := Ex.size (HXr.out.trans HX4.out)
                    have hk2a : 1 ≤ k2 := by omega
                    have hk2b : k2 ≤ 2 := by omega
                    clear hnm hq2 hlt2
                    go_wp2_with (at_builtin; refine wpList_append_wide kc_len kc_one rfl (.tmp 221) (.tmp 231) 44 _ 24 rfl Try.underlying44 Try.info46 (by omega) rfl W3.heap.size vv (tw j) rfl HO4.out (some ⟨wr.heap.size, 0, none⟩) 1 1 [⟨nmj, k2⟩] rfl rfl HR3.out (by rw [tw_len]; simp [maxLen]; omega) (by rw [tw_len]; simp; omega) hbs ?_; intro v5 w5 ho5 hg5 _)
                    have HX5 : Hid (Ex W3 w5) := ((HXr.out.trans HX4.out).grown hg5 hbs (fun q hq => (HO4.out.lt q hq).1) : Ex W3 w5)
                    have HV5 : Hid (∃ vv : Value, vv = v5 ∧ OwnK w5 W3.heap.size vv (tw (j + 1))) := (⟨_, rfl, by rw [HTw.out]; exact ho5⟩ : ∃ vv : Value, vv = v5 ∧ OwnK w5 W3.heap.size vv (tw (j + 1)))
                    clear ho5 hg5
                    go_roundw
                    case rel => exact ⟨j + 1, by omega, by go_num, HV5, HX5⟩
                    case measure => simp [intOf]; omega
                  · obtain rfl : j = 12 := by omega
                    rw [show ((12 : Nat) : Int) = (12 : Int) from rfl]
                    obtain ⟨at12, ct, hvt, hrt⟩ := OwnW.rd kc_len HOwn.out
                    subst hvt
                    rw [tw_len]
                    have HRt : Hid (RdK wr at12 ct (tw 12)) := hrt
                    have hct := hrt.2.1
                    have hct1 := hrt.1
                    unfold maxLen at hct
                    rw [tw_len] at hct1
                    have HX4 : Hid (Ex w wr) := HX3.out.trans HXr.out
                    have HRS4 : Hid (RdR wr (some ⟨gS, 0, none⟩) 20 SS) := HRS3.out.below HXr.out
                    clear hrt
                    go_wp2_with fail
                    refine (num_is [99, 97] 1 _).mono ?_
                    rintro e x1 ⟨rfl, hx1⟩
                    have HR1 : Hid (RdC (x1.alloc (cb ⟨[99, 97], 1, 1, []⟩)) (some ⟨x1.heap.size, 0, none⟩) 1 [⟨[99, 97], 1, 1, []⟩]) := cell_laid x1 _
                    have HX1 : Hid (Ex wr (x1.alloc (cb ⟨[99, 97], 1, 1, []⟩))) := hx1.trans ((Below.refl _ _).alloc (Nat.le_refl _) _)
                    clear hx1
                    simp only [cv]
                    go_wp2_with fail
                    refine (at_is 0 0 _ 1 1 [⟨[99, 97], 1, 1, []⟩] _ rfl HR1.out (by simp)).mono ?_
                    rintro e y2 ⟨⟨p2, n2, c2⟩, rfl, hn2, ho2, hx2⟩
                    simp only at hn2
                    subst hn2
                    have HO2 : Hid (OwnC y2 wr.heap.size (.slice p2 1 c2) [⟨[99, 97], 1, 1, []⟩]) := (OwnW.mono ho2 HX1.out.size : OwnC y2 wr.heap.size (.slice p2 1 c2) [⟨[99, 97], 1, 1, []⟩])
                    have HX2 : Hid (Ex wr y2) := HX1.out.trans hx2
                    clear ho2 hx2
                    simp only [rvv, sv]
                    go_wp2_with fail
                    refine (num_is [122] 1 _).mono ?_
                    rintro e y3 ⟨rfl, hx3⟩
                    have HR3 : Hid (RdC (y3.alloc (cb ⟨[122], 1, 1, []⟩)) (some ⟨y3.heap.size, 0, none⟩) 1 [⟨[122], 1, 1, []⟩]) := cell_laid y3 _
                    have hx3' : Ex y2 (y3.alloc (cb ⟨[122], 1, 1, []⟩)) := hx3.trans ((Below.refl _ _).alloc (Nat.le_refl _) _)
                    have HX3' : Hid (Ex wr (y3.alloc (cb ⟨[122], 1, 1, []⟩))) := HX2.out.trans hx3'
                    have HO3 : Hid (OwnC (y3.alloc (cb ⟨[122], 1, 1, []⟩)) wr.heap.size (.slice p2 1 c2) [⟨[99, 97], 1, 1, []⟩]) := HO2.out.later hx3'
                    clear hx3 hx3'
                    simp only [cv]
                    go_wp2_with fail
                    refine (at_is 0 0 _ 1 1 [⟨[122], 1, 1, []⟩] _ rfl HR3.out (by simp)).mono ?_
                    rintro e y4 ⟨⟨p4, n4, c4⟩, rfl, hn4, ho4, hx4⟩
                    simp only at hn4
                    subst hn4
                    have HO4 : Hid (OwnC y4 wr.heap.size (.slice p4 1 c4) [⟨[122], 1, 1, []⟩]) := (OwnW.mono ho4 HX3'.out.size : OwnC y4 wr.heap.size (.slice p4 1 c4) [⟨[122], 1, 1, []⟩])
                    have HO24 : Hid (OwnC y4 wr.heap.size (.slice p2 1 c2) [⟨[99, 97], 1, 1, []⟩]) := HO3.out.later hx4
                    have HXy4 : Hid (Ex wr y4) := HX3'.out.trans hx4
                    clear ho4 hx4
                    obtain ⟨W, hW⟩ : ∃ W, W = y4.alloc (.cells (flat rc [⟨0, 0, p2, 1, c2⟩, ⟨0, 0, p4, 1, c4⟩]).toArray 28) := ⟨_, rfl⟩
                    have hxW : Ex y4 W := by rw [hW]; exact (Below.refl _ _).alloc (Nat.le_refl _) _
                    have HXW : Hid (Ex wr W) := HXy4.out.trans hxW
                    have HRW : Hid (RdR W (some ⟨y4.heap.size, 0, none⟩) 2 [⟨0, 0, [⟨[99, 97], 1, 1, []⟩]⟩, ⟨0, 0, [⟨[122], 1, 1, []⟩]⟩]) := (by
                      have h1 := HO24.out.later hxW
                      have h2 := HO4.out.later hxW
                      obtain ⟨a8, c8, he, hr8⟩ := h1.rd cc_len
                      simp only [Value.slice.injEq] at he
                      obtain ⟨rfl, _, rfl⟩ := he
                      obtain ⟨a9, c9, he, hr9⟩ := h2.rd cc_len
                      simp only [Value.slice.injEq] at he
                      obtain ⟨rfl, _, rfl⟩ := he
                      exact ⟨[⟨0, 0, p2, 1, c2⟩, ⟨0, 0, p4, 1, c4⟩], by rw [hW]; exact RdW.laid (t := 28) rc_len y4 _ (by simp), EachR.append (EachR.one ⟨rfl, rfl, rfl, hr8⟩) (EachR.one ⟨rfl, rfl, rfl, hr9⟩)⟩ : RdR W (some ⟨y4.heap.size, 0, none⟩) 2 [⟨0, 0, [⟨[99, 97], 1, 1, []⟩]⟩, ⟨0, 0, [⟨[122], 1, 1, []⟩]⟩])
                    have HW : Hid (W = y4.alloc (.cells (flat rc [⟨0, 0, p2, 1, c2⟩, ⟨0, 0, p4, 1, c4⟩]).toArray 28)) := hW
                    clear hW hxW
                    simp only [rvv, sv]
                    go_wp2_with fail
                    have eW : y4.alloc (Obj.cells #[Value.int .i64 0, Value.int .i64 0, Value.slice p2 1 c2, Value.int .i64 0, Value.int .i64 0, Value.slice p4 1 c4] 28) = W := HW.out.symm
                    rw [eW]
                    clear eW
                    refine (f_grow at12 12 ct (tw 12) _ 2 2 _ _ (tw_len 12).symm rfl (RdW.below HRt.out HXW.out) HRW.out (tw_ok 12) (fun r hr => by simp only [List.mem_cons, List.not_mem_nil, or_false] at hr; rcases hr with rfl | rfl; exact Sm.ok ⟨by decide, by decide⟩ ⟨by decide, by decide⟩ (fun c hc => by simp only [List.mem_cons, List.not_mem_nil, or_false] at hc; subst hc; exact ⟨by simp, by simp, ⟨by decide, by decide⟩, ⟨by decide, by decide⟩⟩); exact Sm.ok ⟨by decide, by decide⟩ ⟨by decide, by decide⟩ (fun c hc => by simp only [List.mem_cons, List.not_mem_nil, or_false] at hc; subst hc; exact ⟨by simp, by simp, ⟨by decide, by decide⟩, ⟨by decide, by decide⟩⟩)) (by rw [tw_len]; omega) (by simp) [] 4 1 tw_grow).mono ?_
                    rintro e z1 ⟨q1, k1, rfl, _, hz1⟩
                    have HZ1 : Hid (Ex wr z1) := HXW.out.trans hz1
                    clear hz1
                    go_wp2_with fail
                    have HRb : Hid (RdK (z1.alloc (Obj.cells #[Value.string ⟨#[98]⟩, Value.int .i64 1, Value.string ⟨#[97]⟩, Value.int .i64 1] 46)) (some ⟨z1.heap.size, 0, none⟩) 2 [⟨[98], 1⟩, ⟨[97], 1⟩]) := RdW.laid (t := 46) kc_len z1 [⟨[98], 1⟩, ⟨[97], 1⟩] (by simp)
                    have hz2 : Ex z1 (z1.alloc (Obj.cells #[Value.string ⟨#[98]⟩, Value.int .i64 1, Value.string ⟨#[97]⟩, Value.int .i64 1] 46)) := (Below.refl _ _).alloc (Nat.le_refl _) _
                    refine (f_grow _ 2 2 [⟨[98], 1⟩, ⟨[97], 1⟩] none 0 0 [] _ rfl rfl HRb.out (RdR.nil _) (fun c hc => by simp only [List.mem_cons, List.not_mem_nil, or_false] at hc; rcases hc with rfl | rfl; exact ⟨by simp [maxLen], ⟨by decide, by decide⟩⟩; exact ⟨by simp [maxLen], ⟨by decide, by decide⟩⟩) (by simp) (by simp) (by simp) [] 1 0 rfl).mono ?_
                    rintro e z3 ⟨q2, k2, rfl, _, hz3⟩
                    have HZ3 : Hid (Ex wr z3) := HZ1.out.trans (hz2.trans hz3)
                    clear hz2 hz3
                    go_wp2_with fail
                    have HRc : Hid (RdR (z3.alloc (Obj.cells #[Value.int .i64 0, Value.int .i64 0, Value.slice none 0 0, Value.int .i64 0, Value.int .i64 (-1), Value.slice none 0 0] 28)) (some ⟨z3.heap.size, 0, none⟩) 2 [⟨0, 0, []⟩, ⟨0, -1, []⟩]) := (⟨[⟨0, 0, none, 0, 0⟩, ⟨0, -1, none, 0, 0⟩], RdW.laid (t := 28) rc_len z3 [⟨0, 0, none, 0, 0⟩, ⟨0, -1, none, 0, 0⟩] (by simp), EachR.append (EachR.one ⟨rfl, rfl, rfl, RdW.nil _⟩) (EachR.one ⟨rfl, rfl, rfl, RdW.nil _⟩)⟩ : RdR _ _ _ _)
                    have hz4 : Ex z3 (z3.alloc (Obj.cells #[Value.int .i64 0, Value.int .i64 0, Value.slice none 0 0, Value.int .i64 0, Value.int .i64 (-1), Value.slice none 0 0] 28)) := (Below.refl _ _).alloc (Nat.le_refl _) _
                    refine (f_grow none 0 0 [] _ 2 2 [⟨0, 0, []⟩, ⟨0, -1, []⟩] _ rfl rfl (RdW.nil _) HRc.out (by simp) (fun r hr => by simp only [List.mem_cons, List.not_mem_nil, or_false] at hr; rcases hr with rfl | rfl; exact Sm.ok ⟨by decide, by decide⟩ ⟨by decide, by decide⟩ (fun c hc => absurd hc (by simp)); exact Sm.ok ⟨by decide, by decide⟩ ⟨by decide, by decide⟩ (fun c hc => absurd hc (by simp))) (by simp) (by simp) [] 1 1 rfl).mono ?_
                    rintro e z5 ⟨q3, k3, rfl, _, hz5⟩
                    have HZ5 : Hid (Ex wr z5) := HZ3.out.trans (hz4.trans hz5)
                    clear hz4 hz5
                    go_wp2_with fail
                    refine (f_grow at12 12 ct (tw 12) none 0 0 [] _ (tw_len 12).symm rfl (RdW.below HRt.out HZ5.out) (RdR.nil _) (tw_ok 12) (by simp) (by rw [tw_len]; omega) (by simp) (tw 12) 0 0 tw_same).mono ?_
                    rintro e z6 ⟨q5, k5, rfl, hb6, hz6⟩
                    rw [tw_len]
                    have HZ6 : Hid (Ex wr z6) := HZ5.out.trans hz6
                    have HR6 : Hid (RdK z6 q5 k5 (tw 12)) := hb6
                    clear hz6 hb6
                    go_wp2_with fail
                    have hS19 : 19 < SS.length := by rw [HSl.out]; omega
                    obtain ⟨b', o', p9, c9, hpL, g0, g1, g2, hrd⟩ := (HRS4.out.below HZ6.out).at hS19
                    simp only [Option.some.injEq, Addr.mk.injEq, and_true] at hpL
                    obtain ⟨rfl, rfl⟩ := hpL
                    have h19 : SS[19] = (⟨(-5), 9, [(⟨[97], 1, (-9223372036854775808), []⟩ : Ce), (⟨[98], 2, 0, []⟩ : Ce)]⟩ : Rw) := by
                      have h := HS19.out
                      rw [List.getElem?_eq_getElem hS19] at h
                      exact Option.some.inj h
                    have HOk19 : Hid (RwOk (⟨(-5), 9, [(⟨[97], 1, (-9223372036854775808), []⟩ : Ce), (⟨[98], 2, 0, []⟩ : Ce)]⟩ : Rw)) := HSok.out _ (List.mem_of_getElem? HS19.out)
                    rw [h19] at g0 g1 g2 hrd
                    have G0 : Hid (z6.cell? ⟨gS, 57, none⟩ = some (.int .i64 (-5))) := g0
                    have G1 : Hid (z6.cell? ⟨gS, 57 + 1, none⟩ = some (.int .i64 9)) := g1
                    have G2 : Hid (z6.cell? ⟨gS, 57 + 2, none⟩ = some (.slice p9 2 c9)) := g2
                    have HRd9 : Hid (RdC z6 p9 c9 [(⟨[97], 1, (-9223372036854775808), []⟩ : Ce), (⟨[98], 2, 0, []⟩ : Ce)]) := hrd
                    have hc9 := hrd.1
                    have hc92 := hrd.2.1
                    unfold maxLen at hc92
                    obtain ⟨b9, o9, hp9, y0, y1, y2, y3⟩ := RdC.four hrd (i := 1) (by simp)
                    subst hp9
                    have Y0 : Hid (z6.cell? ⟨b9, o9 + 4, none⟩ = some (.string (str [98]))) := y0
                    have Y1 : Hid (z6.cell? ⟨b9, o9 + 4 + 1, none⟩ = some (.int .i64 2)) := y1
                    have Y2 : Hid (z6.cell? ⟨b9, o9 + 4 + 2, none⟩ = some (.int .i64 0)) := y2
                    have Y3 : Hid (z6.cell? ⟨b9, o9 + 4 + 3, none⟩ = some (.string (str []))) := y3
                    have HCB : Hid (∀ wx, Ex z6 wx → Calls Try.prog 22 #[rvv ⟨-5, 9, some ⟨b9, o9, none⟩, 2, c9⟩, .string (str [98])] wx fun e w' => e = .returned (cv ⟨[98], 2, 0, []⟩) ∧ Ex wx w') := (fun wx hC => f_cell ⟨-5, 9, some ⟨b9, o9, none⟩, 2, c9⟩ (⟨(-5), 9, [(⟨[97], 1, (-9223372036854775808), []⟩ : Ce), (⟨[98], 2, 0, []⟩ : Ce)]⟩ : Rw) [98] wx ⟨rfl, rfl, rfl, RdW.below HRd9.out hC⟩ HOk19.out (by simp [maxLen]) _ rfl : ∀ wx, Ex z6 wx → Calls Try.prog 22 #[rvv ⟨-5, 9, some ⟨b9, o9, none⟩, 2, c9⟩, .string (str [98])] wx fun e w' => e = .returned (cv ⟨[98], 2, 0, []⟩) ∧ Ex wx w')
                    have HCC : Hid (∀ wx, Ex z6 wx → Calls Try.prog 22 #[rvv ⟨-5, 9, some ⟨b9, o9, none⟩, 2, c9⟩, .string (str [99])] wx fun e w' => e = .returned (cv Rw.none_) ∧ Ex wx w') := (fun wx hC => f_cell ⟨-5, 9, some ⟨b9, o9, none⟩, 2, c9⟩ (⟨(-5), 9, [(⟨[97], 1, (-9223372036854775808), []⟩ : Ce), (⟨[98], 2, 0, []⟩ : Ce)]⟩ : Rw) [99] wx ⟨rfl, rfl, rfl, RdW.below HRd9.out hC⟩ HOk19.out (by simp [maxLen]) _ rfl : ∀ wx, Ex z6 wx → Calls Try.prog 22 #[rvv ⟨-5, 9, some ⟨b9, o9, none⟩, 2, c9⟩, .string (str [99])] wx fun e w' => e = .returned (cv Rw.none_) ∧ Ex wx w')
                    clear hrd h19 g0 g1 g2 y0 y1 y2 y3
                    simp only [List.append_eq, List.cons_append, List.nil_append]
                    have hre := Ex.refl
                    refine Rg.wp_rows [.inl (Value.int .i64 4), .inl (.bool true), .inl (.bool true), .inl (Value.int .i64 1), .inl (.bool true), .inl (.bool true), .inl (.bool true), .inl (Value.int .i64 1), .inl (.bool true), .inl (.bool true), .inl (.bool true), .inl (Value.int .i64 0), .inl (.bool true), .inl (.bool true), .inl (.bool true), .inl (Value.int .i64 1), .inl (.bool true), .inl (.bool true), .inl (.bool true), .inl (Value.int .i64 1), .inl (.bool true), .inl (.bool true), .inl (.bool true), .inl (Value.slice q5 12 k5), .inl (Value.slice at12 12 ct), .inl (.bool true), .inl (.bool true), .inl (.bool true), .inl (Value.int .i64 0), .inl (.bool true), .inl (.bool true), .inl (.bool true), .inl (Value.int .i64 0), .inl (.bool true), .inl (.bool true), .inl (.bool true), .inl (.bool true), .inl (.bool true), .inl (.bool true), .inl (kv ⟨[97], 0⟩), .inr (IsK1 ⟨[97], 0⟩), .inl (.bool false), .inl (.bool true), .inl (.bool true), .inl (.bool true), .inl (Value.slice (some ⟨gS, 0, none⟩) 20 20), .inl (Value.pointer (some ⟨gS, 57, none⟩)), .inl (rvv ⟨-5, 9, some ⟨b9, o9, none⟩, 2, c9⟩), .inl (cv ⟨[98], 2, 0, []⟩), .inl (Value.slice (some ⟨gS, 0, none⟩) 20 20), .inl (Value.pointer (some ⟨gS, 57, none⟩)), .inl (Value.pointer (some ⟨gS, 59, none⟩)), .inl (Value.slice (some ⟨b9, o9, none⟩) 2 c9), .inl (Value.pointer (some ⟨b9, o9 + 4, none⟩)), .inl (cv ⟨[98], 2, 0, []⟩), .inl (.bool true), .inl (.bool true), .inl (.bool true), .inl (Value.slice (some ⟨gS, 0, none⟩) 20 20), .inl (Value.pointer (some ⟨gS, 57, none⟩)), .inl (rvv ⟨-5, 9, some ⟨b9, o9, none⟩, 2, c9⟩), .inl (cv Rw.none_), .inl (cv Rw.none_), .inl (.bool true), .inl (.bool true), .inl (.bool true), .inl (.bool true), .inl (.bool true), .inl (.bool true)] (Ex z6) Ex 336 (by kernel_rfl) rfl (by kernel_rfl) ?st hre (Ex.drew _) ?goods ?fin
                    case st => exact ⟨IsK1.stands _, trivial⟩
                    case goods =>
                      refine Rg.goods_cons (Rg.good_move hre rfl rfl rfl) ?_
                      refine Rg.goods_cons (Rg.good_bin hre rfl rfl rfl rfl (fun _ => rfl) (fun w => by go_simp)) ?_
                      refine Rg.goods_cons (Rg.good_move hre rfl rfl rfl) ?_
                      refine Rg.goods_cons (Rg.good_move hre rfl rfl rfl) ?_
                      refine Rg.goods_cons (Rg.good_bin hre rfl rfl rfl rfl (fun _ => rfl) (fun w => by go_simp)) ?_
                      refine Rg.goods_cons (Rg.good_pick true hre rfl rfl rfl rfl) ?_
                      refine Rg.goods_cons (Rg.good_move hre rfl rfl rfl) ?_
                      refine Rg.goods_cons (Rg.good_move hre rfl rfl rfl) ?_
                      refine Rg.goods_cons (Rg.good_bin hre rfl rfl rfl rfl (fun _ => rfl) (fun w => by go_simp)) ?_
                      refine Rg.goods_cons (Rg.good_pick true hre rfl rfl rfl rfl) ?_
                      refine Rg.goods_cons (Rg.good_move hre rfl rfl rfl) ?_
                      refine Rg.goods_cons (Rg.good_move hre rfl rfl rfl) ?_
                      refine Rg.goods_cons (Rg.good_bin hre rfl rfl rfl rfl (fun _ => rfl) (fun w => by go_simp)) ?_
                      refine Rg.goods_cons (Rg.good_pick true hre rfl rfl rfl rfl) ?_
                      refine Rg.goods_cons (Rg.good_move hre rfl rfl rfl) ?_
                      refine Rg.goods_cons (Rg.good_move hre rfl rfl rfl) ?_
                      refine Rg.goods_cons (Rg.good_bin hre rfl rfl rfl rfl (fun _ => rfl) (fun w => by go_simp)) ?_
                      refine Rg.goods_cons (Rg.good_pick true hre rfl rfl rfl rfl) ?_
                      refine Rg.goods_cons (Rg.good_move hre rfl rfl rfl) ?_
                      refine Rg.goods_cons (Rg.good_move hre rfl rfl rfl) ?_
                      refine Rg.goods_cons (Rg.good_bin hre rfl rfl rfl rfl (fun _ => rfl) (fun w => by go_simp)) ?_
                      refine Rg.goods_cons (Rg.good_pick true hre rfl rfl rfl rfl) ?_
                      refine Rg.goods_cons (Rg.good_move hre rfl rfl rfl) ?_
                      refine Rg.goods_cons (Rg.good_move hre rfl rfl rfl) ?_
                      refine Rg.goods_cons (Rg.good_move hre rfl rfl rfl) ?_
                      refine Rg.goods_cons (Rg.good_call2 Try.func20 (by kernel_rfl) rfl rfl rfl (by rintro u u2 wx hC rfl rfl; exact ex_row (kcols_is q5 12 k5 (tw 12) at12 12 ct (tw 12) wx (tw_len 12).symm (tw_len 12).symm (RdW.below HR6.out hC) (RdW.below (RdW.below HRt.out HZ6.out) hC) true (by simp)) hC)) ?_
                      refine Rg.goods_cons (Rg.good_pick true hre rfl rfl rfl rfl) ?_
                      refine Rg.goods_cons (Rg.good_move hre rfl rfl rfl) ?_
                      refine Rg.goods_cons (Rg.good_move hre rfl rfl rfl) ?_
                      refine Rg.goods_cons (Rg.good_bin hre rfl rfl rfl rfl (fun _ => rfl) (fun w => by go_simp)) ?_
                      refine Rg.goods_cons (Rg.good_pick true hre rfl rfl rfl rfl) ?_
                      refine Rg.goods_cons (Rg.good_move hre rfl rfl rfl) ?_
                      refine Rg.goods_cons (Rg.good_move hre rfl rfl rfl) ?_
                      refine Rg.goods_cons (Rg.good_bin hre rfl rfl rfl rfl (fun _ => rfl) (fun w => by go_simp)) ?_
                      refine Rg.goods_cons (Rg.good_pick true hre rfl rfl rfl rfl) ?_
                      refine Rg.goods_cons (Rg.good_move hre rfl rfl rfl) ?_
                      refine Rg.goods_cons (Rg.good_call1 Try.func21 (by kernel_rfl) rfl rfl rfl (by rintro u wx hC rfl; exact ex_row (f_cols none 0 0 [] wx rfl (RdW.nil _) (by simp) true rfl) hC)) ?_
                      refine Rg.goods_cons (Rg.good_pick true hre rfl rfl rfl rfl) ?_
                      refine Rg.goods_cons (Rg.good_move hre rfl rfl rfl) ?_
                      refine Rg.goods_cons (Rg.good_known hre rfl (fun x => match x with | .const v => v | _ => undef) (kv ⟨[97], 0⟩) (by simp) (fun x hx => by simp [Op.operands] at hx; subst hx; rfl) (fun w hC => by simp [execOp, go_sem, kv, str])) ?_
                      refine Rg.goods_cons (Rg.good_k1 rfl rfl rfl) ?_
                      refine Rg.goods_cons (Rg.good_call1 Try.func21 (by kernel_rfl) rfl rfl rfl (by rintro u wx hC h; exact cols_row ⟨by simp [maxLen], ⟨by decide, by decide⟩⟩ false rfl h hC)) ?_
                      refine Rg.goods_cons (Rg.good_un hre rfl rfl rfl (fun w => by go_simp)) ?_
                      refine Rg.goods_cons (Rg.good_pick true hre rfl rfl rfl rfl) ?_
                      refine Rg.goods_cons (Rg.good_move hre rfl rfl rfl) ?_
                      refine Rg.goods_cons (Rg.good_move hre rfl rfl rfl) ?_
                      refine Rg.goods_cons (Rg.good_index hre rfl rfl rfl rfl (fun wx hC => by first | (go_simp; done) | (go_simp; omega))) ?_
                      refine Rg.goods_cons (Rg.good_load hre rfl rfl rfl (fun wx hC => by exact loadI_row (cell_ex G0.out hC) (cell_ex G1.out hC) (cell_ex G2.out hC))) ?_
                      refine Rg.goods_cons (Rg.good_call2 Try.func22 (by kernel_rfl) rfl rfl rfl (by rintro u u2 wx hC rfl rfl; exact ex_row (HCB.out wx hC) hC)) ?_
                      refine Rg.goods_cons (Rg.good_move hre rfl rfl rfl) ?_
                      refine Rg.goods_cons (Rg.good_index hre rfl rfl rfl rfl (fun wx hC => by first | (go_simp; done) | (go_simp; omega))) ?_
                      refine Rg.goods_cons (Rg.good_field hre rfl rfl rfl (fun wx hC => by go_simp)) ?_
                      refine Rg.goods_cons (Rg.good_load hre rfl rfl rfl (fun wx hC => by have hz := cell_ex G2.out hC; go_simp)) ?_
                      refine Rg.goods_cons (Rg.good_index hre rfl rfl rfl rfl (fun wx hC => by first | (go_simp; done) | (go_simp; omega))) ?_
                      refine Rg.goods_cons (Rg.good_load hre rfl rfl rfl (fun wx hC => by exact loadI_cell (c := ⟨[98], 2, 0, []⟩) (cell_ex Y0.out hC) (cell_ex Y1.out hC) (cell_ex Y2.out hC) (cell_ex Y3.out hC))) ?_
                      refine Rg.goods_cons (Rg.good_bin hre rfl rfl rfl rfl (fun wx => guard_cell _ _ _ _ _ wx) (fun wx => eql_cell _ _ true (by simp) wx)) ?_
                      refine Rg.goods_cons (Rg.good_pick true hre rfl rfl rfl rfl) ?_
                      refine Rg.goods_cons (Rg.good_move hre rfl rfl rfl) ?_
                      refine Rg.goods_cons (Rg.good_move hre rfl rfl rfl) ?_
                      refine Rg.goods_cons (Rg.good_index hre rfl rfl rfl rfl (fun wx hC => by first | (go_simp; done) | (go_simp; omega))) ?_
                      refine Rg.goods_cons (Rg.good_load hre rfl rfl rfl (fun wx hC => by exact loadI_row (cell_ex G0.out hC) (cell_ex G1.out hC) (cell_ex G2.out hC))) ?_
                      refine Rg.goods_cons (Rg.good_call2 Try.func22 (by kernel_rfl) rfl rfl rfl (by rintro u u2 wx hC rfl rfl; exact ex_row (HCC.out wx hC) hC)) ?_
                      refine Rg.goods_cons (Rg.good_known hre rfl (fun _ => undef) (cv Rw.none_) (by simp) (fun x hx => by simp [Op.operands] at hx) (fun w hC => by simp [execOp, go_sem, cv, Rw.none_, str])) ?_
                      refine Rg.goods_cons (Rg.good_bin hre rfl rfl rfl rfl (fun wx => guard_cell _ _ _ _ _ wx) (fun wx => eql_cell _ _ true (by simp) wx)) ?_
                      refine Rg.goods_cons (Rg.good_pick true hre rfl rfl rfl rfl) ?_
                      refine Rg.goods_cons (Rg.good_move hre rfl rfl rfl) ?_
                      refine Rg.goods_cons (Rg.good_call0 Try.func23 (by kernel_rfl) rfl rfl rfl (by intro wx hC; exact ex_row (known_any wx) hC)) ?_
                      refine Rg.goods_cons (Rg.good_pick true hre rfl rfl rfl rfl) ?_
                      refine Rg.goods_cons (Rg.good_assign hre rfl rfl rfl) ?_
                      exact Rg.goods_nil
                    case fin =>
                      intro wx hx
                      simp only [Rg.later, Act.put, List.setIfInBounds_toArray, List.set_cons_succ, List.set_cons_zero]
                      intro vin0 hin0
                      have HXf : Hid (Ex w wx) := HX4.out.trans (HZ6.out.trans hx)
                      clear hx hin0
                      go_wp2_with fail
                      go_ret
                      exact ⟨rfl, HXf.out⟩
end Go.Proofs.Ytghnbohplonhoaa.rowNumbers
