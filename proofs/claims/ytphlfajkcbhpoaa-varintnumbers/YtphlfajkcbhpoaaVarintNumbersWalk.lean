/-
  The walk of the law VarintNumbers: chapter 1's runs and one for each refusal come out as the document says.
-/
import Derived.Test.YtphlfajkcbhpoaaLater
namespace Go.Proofs.Ytphlfajkcbhpoaa.varintNumbers
open Go.RowKit
set_option linter.unusedVariables false

/-- A slice that is written out. -/
theorem wpList_build_own {w : World} {ops : Array Oper} {rest : List Oper} {o : Oper} {a : Act} {Q : Exit → Act → World → Prop} (hgd : o.guard = none) (d : Tmp) (hd : o.dst = some d) (n : Nat) (L : List UInt8) (hn : n = L.length) (hm : n ≤ 1000)
    (hrun : ∀ w, (execOp a.eval o).run Try.prog w = .ok (.value (.slice (some ⟨w.heap.size, 0, none⟩) n n)) (w.alloc (.cells (cs L).toArray 5))) (base : Nat) (hbase : base ≤ w.heap.size)
    (hK : ∀ g w', Own w' base (.slice (some ⟨g, 0, none⟩) n n) L → Ex w w' → wpList Try.prog ops Q rest (a.put (some d) (.slice (some ⟨g, 0, none⟩) n n)) w') : wpList Try.prog ops Q (o :: rest) a w := by
  refine wpList_plain hgd fun K hK' => ?_
  unfold Oper.wp
  rw [hrun w]
  show K (a.put o.dst _) _
  rw [hd]
  refine hK' _ _ (hK w.heap.size _ ?_ ((Below.refl _ _).alloc (Nat.le_refl _) _))
  show World.ownsRow _ _ _ _ _ _ _
  rw [← hn]
  refine ⟨by rw [cs_len, hn]; omega, .inr ⟨w.heap.size, n, _, rfl, hbase, heap_alloc_new w _, Nat.le_refl _, ?_, by simp [cs_len, hn], ?_⟩⟩
  · unfold maxLen; omega
  · rw [Nat.mul_one, List.take_of_length_le (by simp [cs_len, hn])]

set_option maxRecDepth 100000 in
set_option maxHeartbeats 4000000 in
theorem walk (w : World) : Calls Try.prog 3 #[] w fun e w' => e = .returned (.bool true) ∧ Below w.heap.size w w' := by
  go_enter Try.func3, Try.ntmps3
  go_wp2_with (first
    | (refine wpList_build_own rfl 33 rfl 10 [255, 255, 255, 255, 255, 255, 255, 255, 255, 1] rfl (by decide) (fun _ => by kernel_rfl) w.heap.size (Nat.le_refl _) ?_; intro g33 w33 ho33 hx33)
    | (refine wpList_build_own rfl 34 rfl 0 [] rfl (by decide) (fun _ => by kernel_rfl) w33.heap.size (Nat.le_refl _) ?_; intro g34 w34 ho34 hx34)
    | (at_builtin; refine wpList_append_byt rfl (.tmp 34) (.tmp 36) rfl w33.heap.size _ [] rfl ho34 _ _ _ [255, 255, 255, 255, 255, 255, 255, 255, 255] rfl rfl ((ho33.bytS.below hx34).take (k := 9) (by decide)) (by decide) (Ex.size hx34) ?_; intro v37 w37 ho37 hg37; have X37 : Ex w33 w37 := step_below0 hx34 (Ex.size hx34) ho34 hg37; clear hg37)
    | (refine wpList_build_own rfl 38 rfl 1 [2] rfl (by decide) (fun _ => by kernel_rfl) w33.heap.size (Ex.size X37) ?_; intro g38 w38 ho38 hx38; have X38 := Ex.trans X37 hx38)
    | (at_builtin; refine wpList_append_byt rfl (.tmp 37) (.tmp 38) rfl w33.heap.size _ [255, 255, 255, 255, 255, 255, 255, 255, 255] rfl (ho37.later hx38) _ _ _ [2] rfl rfl ho38.bytS (by decide) (Ex.size X38) ?_; intro v39 w39 ho39 hg39; have X39 : Ex w33 w39 := step_below0 X38 (Ex.size X38) (ho37.later hx38) hg39; clear hg39; obtain ⟨a39, cap39, rfl, hB39⟩ := Own.byt (l := [255, 255, 255, 255, 255, 255, 255, 255, 255, 2]) ho39)
    | (refine wpList_build_own rfl 40 rfl 0 [] rfl (by decide) (fun _ => by kernel_rfl) w39.heap.size (Nat.le_refl _) ?_; intro g40 w40 ho40 hx40)
    | (at_builtin; refine wpList_append_byt rfl (.tmp 40) (.tmp 42) rfl w39.heap.size _ [] rfl ho40 _ _ _ [255, 255, 255, 255, 255, 255, 255, 255, 255] rfl rfl (((ho33.bytS.below X39).below hx40).take (k := 9) (by decide)) (by decide) (Ex.size hx40) ?_; intro v43 w43 ho43 hg43; have X43 : Ex w39 w43 := step_below0 hx40 (Ex.size hx40) ho40 hg43; clear hg43)
    | (refine wpList_build_own rfl 44 rfl 2 [128, 1] rfl (by decide) (fun _ => by kernel_rfl) w39.heap.size (Ex.size X43) ?_; intro g44 w44 ho44 hx44; have X44 := Ex.trans X43 hx44)
    | (at_builtin; refine wpList_append_byt rfl (.tmp 43) (.tmp 44) rfl w39.heap.size _ [255, 255, 255, 255, 255, 255, 255, 255, 255] rfl (ho43.later hx44) _ _ _ [128, 1] rfl rfl ho44.bytS (by decide) (Ex.size X44) ?_; intro v45 w45 ho45 hg45; have X45 : Ex w39 w45 := step_below0 X44 (Ex.size X44) (ho43.later hx44) hg45; clear hg45; obtain ⟨a45, cap45, rfl, hB45⟩ := Own.byt (l := [255, 255, 255, 255, 255, 255, 255, 255, 255, 128, 1]) ho45)
    | (refine wpList_build_own rfl 46 rfl 1 [0] rfl (by decide) (fun _ => by kernel_rfl) w45.heap.size (Nat.le_refl _) ?_; intro g46 w46 ho46 hx46)
    | (refine wpList_build_own rfl 47 rfl 1 [127] rfl (by decide) (fun _ => by kernel_rfl) w46.heap.size (Nat.le_refl _) ?_; intro g47 w47 ho47 hx47)
    | (refine wpList_build_own rfl 48 rfl 1 [128] rfl (by decide) (fun _ => by kernel_rfl) w47.heap.size (Nat.le_refl _) ?_; intro g48 w48 ho48 hx48)
    | (refine wpList_build_own rfl 49 rfl 2 [128, 1] rfl (by decide) (fun _ => by kernel_rfl) w48.heap.size (Nat.le_refl _) ?_; intro g49 w49 ho49 hx49)
    | (refine wpList_build_own rfl 50 rfl 2 [128, 0] rfl (by decide) (fun _ => by kernel_rfl) w49.heap.size (Nat.le_refl _) ?_; intro g50 w50 ho50 hx50)
    | (refine wpList_build_own rfl 51 rfl 3 [128, 128, 0] rfl (by decide) (fun _ => by kernel_rfl) w50.heap.size (Nat.le_refl _) ?_; intro g51 w51 ho51 hx51)
    | (refine wpList_build_own rfl 57 rfl 10 [255, 255, 255, 255, 255, 255, 255, 255, 255, 0] rfl (by decide) (fun _ => by kernel_rfl) w51.heap.size (Nat.le_refl _) ?_; intro g57 w57 ho57 hx57)
    | (refine wpList_build_own rfl 58 rfl 12 [128, 128, 128, 128, 128, 128, 128, 128, 128, 128, 128, 128] rfl (by decide) (fun _ => by kernel_rfl) w57.heap.size (Nat.le_refl _) ?_; intro g58 w58 ho58 hx58))
  have Y58 := Ex.refl w58
  have Y57 := Ex.trans hx58 Y58
  have Y51 := Ex.trans hx57 Y57
  have Y50 := Ex.trans hx51 Y51
  have Y49 := Ex.trans hx50 Y50
  have Y48 := Ex.trans hx49 Y49
  have Y47 := Ex.trans hx48 Y48
  have Y46 := Ex.trans hx47 Y47
  have Y45 := Ex.trans hx46 Y46
  have Y39 := Ex.trans X45 Y45
  have Y33 := Ex.trans X39 Y39
  have Yw := Ex.trans hx33 Y33
  obtain ⟨wt, hwt⟩ : ∃ wt, wt = w58.alloc (.cells #[.slice none 0 0, .slice (some ⟨g46, 0, none⟩) 1 1, .slice (some ⟨g47, 0, none⟩) 1 1, .slice (some ⟨g48, 0, none⟩) 1 1, .slice (some ⟨g49, 0, none⟩) 2 2, .slice (some ⟨g50, 0, none⟩) 2 2, .slice (some ⟨g51, 0, none⟩) 3 3, .slice (some ⟨g33, 0, none⟩) 10 10, .slice (some ⟨g33, 0, none⟩) 9 10, .slice a39 10 cap39, .slice a45 11 cap45, .slice (some ⟨g57, 0, none⟩) 10 10, .slice (some ⟨g58, 0, none⟩) 12 12] 22) := ⟨_, rfl⟩
  have htab : ∀ k, k < 13 → ∃ a cap l n, wt.cell? ⟨w58.heap.size, k, none⟩ = some (.slice a n cap) ∧ n = l.length ∧ Byt wt a cap l := by
    have hcell : ∀ k, wt.cell? ⟨w58.heap.size, k, none⟩ = (#[.slice none 0 0, .slice (some ⟨g46, 0, none⟩) 1 1, .slice (some ⟨g47, 0, none⟩) 1 1, .slice (some ⟨g48, 0, none⟩) 1 1, .slice (some ⟨g49, 0, none⟩) 2 2, .slice (some ⟨g50, 0, none⟩) 2 2, .slice (some ⟨g51, 0, none⟩) 3 3, .slice (some ⟨g33, 0, none⟩) 10 10, .slice (some ⟨g33, 0, none⟩) 9 10, .slice a39 10 cap39, .slice a45 11 cap45, .slice (some ⟨g57, 0, none⟩) 10 10, .slice (some ⟨g58, 0, none⟩) 12 12] : Array Value)[k]? := by
      intro k
      rw [hwt]
      exact cell_of_row _ _ _ _ 22 (0, 0) (heap_alloc_new w58 _)
    have hex : Ex w58 wt := by rw [hwt]; exact (Below.refl _ _).alloc (Nat.le_refl _) _
    have hall : ∀ k, k < 13 → ∃ a cap l n, (#[.slice none 0 0, .slice (some ⟨g46, 0, none⟩) 1 1, .slice (some ⟨g47, 0, none⟩) 1 1, .slice (some ⟨g48, 0, none⟩) 1 1, .slice (some ⟨g49, 0, none⟩) 2 2, .slice (some ⟨g50, 0, none⟩) 2 2, .slice (some ⟨g51, 0, none⟩) 3 3, .slice (some ⟨g33, 0, none⟩) 10 10, .slice (some ⟨g33, 0, none⟩) 9 10, .slice a39 10 cap39, .slice a45 11 cap45, .slice (some ⟨g57, 0, none⟩) 10 10, .slice (some ⟨g58, 0, none⟩) 12 12] : Array Value)[k]? = some (.slice a n cap) ∧ n = (l : List UInt8).length ∧ Byt w58 a cap l := by
      intro k hk
      match k, hk with
      | 0, _ => exact ⟨none, 0, [], 0, rfl, rfl, (Byt.nil w58)⟩
      | 1, _ => exact ⟨(some ⟨g46, 0, none⟩), 1, [0], 1, rfl, rfl, (ho46.bytS.below Y46)⟩
      | 2, _ => exact ⟨(some ⟨g47, 0, none⟩), 1, [127], 1, rfl, rfl, (ho47.bytS.below Y47)⟩
      | 3, _ => exact ⟨(some ⟨g48, 0, none⟩), 1, [128], 1, rfl, rfl, (ho48.bytS.below Y48)⟩
      | 4, _ => exact ⟨(some ⟨g49, 0, none⟩), 2, [128, 1], 2, rfl, rfl, (ho49.bytS.below Y49)⟩
      | 5, _ => exact ⟨(some ⟨g50, 0, none⟩), 2, [128, 0], 2, rfl, rfl, (ho50.bytS.below Y50)⟩
      | 6, _ => exact ⟨(some ⟨g51, 0, none⟩), 3, [128, 128, 0], 3, rfl, rfl, (ho51.bytS.below Y51)⟩
      | 7, _ => exact ⟨(some ⟨g33, 0, none⟩), 10, [255, 255, 255, 255, 255, 255, 255, 255, 255, 1], 10, rfl, rfl, (ho33.bytS.below Y33)⟩
      | 8, _ => exact ⟨(some ⟨g33, 0, none⟩), 10, [255, 255, 255, 255, 255, 255, 255, 255, 255], 9, rfl, rfl, ((ho33.bytS.below Y33).take (k := 9) (by decide))⟩
      | 9, _ => exact ⟨a39, cap39, [255, 255, 255, 255, 255, 255, 255, 255, 255, 2], 10, rfl, rfl, (hB39.below Y39)⟩
      | 10, _ => exact ⟨a45, cap45, [255, 255, 255, 255, 255, 255, 255, 255, 255, 128, 1], 11, rfl, rfl, (hB45.below Y45)⟩
      | 11, _ => exact ⟨(some ⟨g57, 0, none⟩), 10, [255, 255, 255, 255, 255, 255, 255, 255, 255, 0], 10, rfl, rfl, (ho57.bytS.below Y57)⟩
      | 12, _ => exact ⟨(some ⟨g58, 0, none⟩), 12, [128, 128, 128, 128, 128, 128, 128, 128, 128, 128, 128, 128], 12, rfl, rfl, (ho58.bytS.below Y58)⟩
    intro k hk
    obtain ⟨a, cap, l, n, h1, h2, h3⟩ := hall k hk
    exact ⟨a, cap, l, n, (hcell k).trans h1, h2, h3.below hex⟩
  have hYt : Ex w58 wt := by rw [hwt]; exact (Below.refl _ _).alloc (Nat.le_refl _) _
  have Yt := Ex.trans Yw hYt
  have HTEN : Hid (Byt wt (some ⟨g33, 0, none⟩) 10 [255, 255, 255, 255, 255, 255, 255, 255, 255, 1]) := (ho33.bytS.below Y33).below hYt
  rw [← hwt]
  have HT : Hid (∀ k, k < 13 → ∃ a cap l n, wt.cell? ⟨w58.heap.size, k, none⟩ = some (.slice a n cap) ∧ n = l.length ∧ Byt wt a cap l) := htab
  clear hwt htab hYt Yw Y58 Y39 Y33 Y45 Y46 Y47 Y48 Y49 Y50 Y51 Y57 X37 X38 X39 X43 X44 X45 hB39 hB45 ho33 ho34 ho37 ho38 ho39 ho40 ho43 ho44 ho45 ho46 ho47 ho48 ho49 ho50 ho51 ho57 ho58 hx33 hx34 hx38 hx40 hx44 hx46 hx47 hx48 hx49 hx50 hx51 hx57 hx58
  go_loop [61] (fun i => ∃ k : Nat, k ≤ 13 ∧ i = .int .i64 (k : Int)) (fun i => 13 - (intOf i).toNat)
  case atStart => exact ⟨0, by omega, rfl⟩
  case round =>
    obtain ⟨k, hk, rfl⟩ := hrel
    by_cases hlt : k < 13
    · obtain ⟨a, cap, l, n, hc, hn, hB⟩ := HT.out k hlt
      obtain ⟨⟨N, kk, e0⟩, hg⟩ : ∃ x, M.get l 0 = x := ⟨_, rfl⟩
      have HG : Hid (M.get l 0 = (N, kk, e0)) := hg
      have HN : Hid (n = l.length) := hn
      have HB : Hid (Byt wt a cap l) := hB
      clear hg hn hB
      go_wp2_with fail
      refine (get_is a n cap l 0 _ N kk e0 HG.out HB.out HN.out).mono ?_
      rintro e wq ⟨rfl, hw⟩
      have hw' := hw.symm
      clear hw
      subst hw'
      go_wp2_with fail
      refine (rget_is a n cap l 0 _ N kk e0 HG.out HB.out HN.out).mono ?_
      rintro e wq ⟨rfl, hw⟩
      have hw' := hw.symm
      clear hw
      subst hw'
      go_wp2_with fail
      go_round
      case rel => exact ⟨k + 1, by omega, by go_num⟩
      case measure => simp [intOf]; omega
    · have hk13 : 13 ≤ k := by omega
      go_wp2_with fail
      refine (get_is (some ⟨g33, 0, none⟩) 10 10 [255, 255, 255, 255, 255, 255, 255, 255, 255, 1] _ _ 0 0 1 (by decide) HTEN.out rfl).mono ?_
      rintro e wq ⟨rfl, hw⟩
      have hw' := hw.symm
      clear hw
      subst hw'
      go_wp2_with fail
      refine (get_is (some ⟨g33, 0, none⟩) 10 10 [255, 255, 255, 255, 255, 255, 255, 255, 255, 1] _ _ 0 0 1 (by decide) HTEN.out rfl).mono ?_
      rintro e wq ⟨rfl, hw⟩
      have hw' := hw.symm
      clear hw
      subst hw'
      clear HTEN HT
      go_wp2_with (refine wpList_build_own rfl 104 rfl 2 [2, 97] rfl (by decide) (fun _ => by kernel_rfl) wt.heap.size (Nat.le_refl _) ?_; intro g104 w104 ho104 hx104)
      have Y104 := Ex.trans Yt hx104
      refine (getText_any (some ⟨g104, 0, none⟩) 2 2 [2, 97] _ _ _ ho104.bytS rfl (by omega) (by omega) [] 0 10 (by decide)).mono ?_
      rintro e wq ⟨rfl, hw⟩
      have hw' := hw.symm
      clear hw
      subst hw'
      clear ho104 hx104 Yt
      go_wp2_with (refine wpList_build_own rfl 110 rfl 3 [2, 97, 98] rfl (by decide) (fun _ => by kernel_rfl) w104.heap.size (Nat.le_refl _) ?_; intro g110 w110 ho110 hx110)
      have Y110 := Ex.trans Y104 hx110
      refine (getText_any (some ⟨g110, 0, none⟩) 3 3 [2, 97, 98] _ _ _ ho110.bytS rfl (by omega) (by omega) [] 0 3 (by decide)).mono ?_
      rintro e wq ⟨rfl, hw⟩
      have hw' := hw.symm
      clear hw
      subst hw'
      clear ho110 hx110 Y104
      go_wp2_with (refine wpList_build_own rfl 116 rfl 4 [9, 2, 97, 98] rfl (by decide) (fun _ => by kernel_rfl) w110.heap.size (Nat.le_refl _) ?_; intro g116 w116 ho116 hx116)
      have Y116 := Ex.trans Y110 hx116
      refine (getText_any (some ⟨g116, 0, none⟩) 4 4 [9, 2, 97, 98] _ _ _ ho116.bytS rfl (by omega) (by omega) [97, 98] 4 0 (by decide)).mono ?_
      rintro e wq ⟨rfl, hw⟩
      have hw' := hw.symm
      clear hw
      subst hw'
      clear ho116 hx116 Y110
      go_wp2_with (refine wpList_build_own rfl 122 rfl 2 [1, 97] rfl (by decide) (fun _ => by kernel_rfl) w116.heap.size (Nat.le_refl _) ?_; intro g122 w122 ho122 hx122)
      have Y122 := Ex.trans Y116 hx122
      refine (getText_any (some ⟨g122, 0, none⟩) 2 2 [1, 97] _ _ _ ho122.bytS rfl (by omega) (by omega) [] 0 3 (by decide)).mono ?_
      rintro e wq ⟨rfl, hw⟩
      have hw' := hw.symm
      clear hw
      subst hw'
      clear ho122 hx122 Y116
      go_wp2_with (refine wpList_build_own rfl 128 rfl 1 [0] rfl (by decide) (fun _ => by kernel_rfl) w122.heap.size (Nat.le_refl _) ?_; intro g128 w128 ho128 hx128)
      have Y128 := Ex.trans Y122 hx128
      refine (getText_any (some ⟨g128, 0, none⟩) 1 1 [0] _ _ _ ho128.bytS rfl (by omega) (by omega) [] 1 0 (by decide)).mono ?_
      rintro e wq ⟨rfl, hw⟩
      have hw' := hw.symm
      clear hw
      subst hw'
      clear ho128 hx128 Y122
      have hst := str_toList [97, 98]
      have hst0 := str_toList []
      go_wp2_with fail
      refine (zig_is _ 18446744073709551615 _ (by omega) (by omega) (by decide)).mono ?_
      rintro e wq ⟨rfl, hw⟩
      have hw' := hw.symm
      clear hw
      subst hw'
      go_wp2_with fail
      refine (zag_is _ (-9223372036854775808) _ (by omega) (by omega) (by decide)).mono ?_
      rintro e wq ⟨rfl, hw⟩
      have hw' := hw.symm
      clear hw
      subst hw'
      go_wp2_with fail
      refine (known_any _).mono ?_
      rintro e w9 ⟨rfl, hb9⟩
      go_wp2
      go_ret
      exact ⟨rfl, Ex.trans Y128 hb9⟩
end Go.Proofs.Ytphlfajkcbhpoaa.varintNumbers
