/-
  The contract of the document's own Decode over the program.
-/
import Derived.Test.YtaehchaimlklnaaRenc
namespace Go.Proofs.Ytaehchaimlklnaa
open Go.RowKit
set_option linter.unusedVariables false

theorem get_step {b : List UInt8} {k U E : Nat} (h : M.get b (k : Int) = (U, E, 0)) : k + 1 ≤ E ∧ E ≤ b.length := by
  have hb := M.get_all b k
  rw [h] at hb
  refine ⟨?_, hb.2.1⟩
  unfold M.get at h
  split at h
  · simp at h
  · rw [Int.toNat_natCast] at h
    split at h
    · rename_i h1 h2
      have hr : M.getR (b.drop k) = ((M.getR (b.drop k)).1, (M.getR (b.drop k)).2.1, 0) := by
        rw [← h2]
      have := (M.getR_back hr).1
      simp only [Prod.mk.injEq] at h
      omega
    · simp at h
      omega
theorem OwnR.nil {α : Type} {enc : α → Value} {e : TypeId} (w : World) (base : Nat) : OwnR e enc w base (.slice none 0 0) [] := ⟨by simp, .inl ⟨rfl, rfl⟩⟩
theorem OwnR.drewN {α : Type} {enc : α → Value} {e : TypeId} {w : World} {base : Nat} {v : Value} {l : List α} (h : OwnR e enc w base v l) (q : Nat) : OwnR e enc (w.drewN q) base v l := h.later (Ex.drewN w q)
theorem Below.drewN {B : Nat} {a w : World} (h : Below B a w) : ∀ q, Below B a (w.drewN q)
  | 0 => h
  | q + 1 => (Below.drewN h q).drew

set_option maxRecDepth 100000 in
set_option maxHeartbeats 2000000 in
theorem rdec_main (a : Option Addr) (cap : Nat) (b : List UInt8) (p : Int) (Mo n K : Nat) (w : World) (hB : Byt w a cap b) (hbl : b.length ≤ 140737488355328) (hMo : Mo ≤ 9223372036854775807) (hcap : Mo ≤ 2000000 ∨ b.length ≤ 2000000) (hg : M.get b p = (n, K, 0)) (hn : n ≤ Mo) (r : List Int) (k0 e0 : Nat) (hr : D.dgo b n K [] = (r, k0, e0)) :
    Calls Try.prog 40 #[.slice a b.length cap, .int .i64 p, .int .i64 Mo] w fun e w' => ∃ v, e = .returned (.tuple #[v, .int .i64 k0, .int .i64 e0]) ∧ OwnR 2 z64 w' w.heap.size v r ∧ Ex w w' := by
  have HB : Hid (Byt w a cap b) := hB
  have HG : Hid (M.get b p = (n, K, 0)) := hg
  have hKb : K ≤ b.length := by have := M.get_all b p; rw [hg] at this; exact this.2.1
  have HR : Hid (D.dgo b (n - 0) K [] = (r, k0, e0)) := hr
  clear hB hg hr
  have tn : decide ((Mo : Int) < 0) = false := by simp
  have tm : decide (Mo < n) = false := by simp; omega
  go_enter Try.func40, Try.ntmps40
  go_wp2_with fail
  refine (rget_is a _ cap b p _ n K 0 HG.out HB.out rfl).mono ?_
  rintro e wq ⟨rfl, hw⟩
  have hw' := hw.symm; clear hw; subst hw'
  go_wp2_with fail
  go_loopw [10, 12, 13] (fun kv v i wr => ∃ (j kk : Nat) (o : List Int), j ≤ n ∧ j ≤ kk ∧ kk ≤ b.length ∧ kv = .int .i64 kk ∧ i = .int .i64 j ∧ Hid (o.length = j) ∧ Hid (D.dgo b (n - j) kk o = (r, k0, e0)) ∧ Hid (OwnR 2 z64 wr w.heap.size v o) ∧ Hid (Below w.heap.size w wr)) (fun _ _ i _ => n - (intOf i).toNat)
  case atStart =>
    have h1 : ([] : List Int).length = 0 := rfl
    exact ⟨0, K, [], by omega, by omega, hKb, rfl, rfl, h1, HR, OwnR.nil w _, Below.refl _ _⟩
  case round =>
    obtain ⟨j, kk, o, hj, hjk, hkk, rfl, rfl, HLo, HD, HO, HX⟩ := hrel
    clear HR
    have hj2 : j ≤ 2000000 := by omega
    by_cases hlt : j < n
    · obtain ⟨⟨U, E, e1⟩, hge⟩ : ∃ x, M.get b (kk : Int) = x := ⟨_, rfl⟩
      have HGe : Hid (M.get b (kk : Int) = (U, E, e1)) := hge
      have hall := M.get_all b (kk : Int)
      rw [hge] at hall
      have hU : U < 18446744073709551616 := hall.1
      have he12 : e1 ≤ 12 := hall.2.2
      have hD := HD.out
      rw [show n - j = (n - (j + 1)) + 1 from by omega, D.dgo, hge] at hD
      clear hall hge
      have tj : decide ((j : Int) < (n : Int)) = true := by simp; omega
      by_cases he : e1 = 0
      · subst he
        have hst := get_step HGe.out
        simp only [ne_eq, not_true_eq_false, if_false] at hD
        have HNext : Hid (D.dgo b (n - (j + 1)) E (o ++ [D.nx o (M.zag U)]) = (r, k0, e0)) := hD
        have hE1 := hst.1
        have hE2 := hst.2
        clear hD hst HD
        obtain ⟨Zz, hZz⟩ : ∃ Zz, M.zag (U : Int) = Zz := ⟨_, rfl⟩
        have HZz : Hid (M.zag (U : Int) = Zz) := hZz
        clear hZz
        by_cases j0 : j = 0
        · have t1 : decide (1 < (j : Int)) = false := by simp; omega
          have t0 : decide (0 < (j : Int)) = false := by simp; omega
          have hnx : D.nx o (M.zag U) = Zz := by
            unfold D.nx
            rw [if_pos (by rw [HLo.out]; exact j0), HZz.out]
          have HNx : Hid (D.nx o (M.zag U) = Zz) := hnx
          have hj0 : j ≤ 0 := by omega
          clear hnx j0
          go_wp2_with fail
          refine (rget_is a _ cap b _ _ U E 0 HGe.out (HB.out.below HX.out) rfl).mono ?_
          rintro e wq ⟨rfl, hw⟩
          have hw' := hw.symm; clear hw; subst hw'
          go_wp2_with fail
          refine (rzag_any _ Zz _ (by omega) (by omega) HZz.out).mono ?_
          rintro e wq ⟨rfl, hw⟩
          have hw' := hw.symm; clear hw; subst hw'
          go_wp2_with (at_builtin; refine wpList_append_rd (e := 2) (enc := z64) rfl (.tmp 77) (.tmp 79) 22 rfl 0 8 Try.underlying22 Try.info2 rfl (fun _ => rfl) w.heap.size _ o rfl (HO.out.alloc _) _ _ _ [Zz] rfl rfl (Rd.laid wr 2 [Zz] (by simp)) (by have := HLo.out; simp [maxLen]; omega) (by have := HLo.out; simp; omega) (by have := HX.out.size; simp; omega) ?_; intro v9 w9 ho9 hg9; have X9 : Below w.heap.size w w9 := step_belowR (Below.alloc HX.out HX.out.size _) (by have := HX.out.size; simp; omega) (HO.out.alloc _) hg9; clear hg9)
          have HO9 : Hid (OwnR 2 z64 w9 w.heap.size v9 (o ++ [D.nx o (M.zag U)])) := (by rw [HNx.out]; exact ho9 : OwnR 2 z64 w9 w.heap.size v9 (o ++ [D.nx o (M.zag U)]))
          have HX9 : Hid (Below w.heap.size w w9) := X9
          have HLn : Hid ((o ++ [D.nx o (M.zag U)]).length = j + 1) := (by have := HLo.out; simp; omega : (o ++ [D.nx o (M.zag U)]).length = j + 1)
          clear ho9 X9
          go_wp2
          go_roundw
          case rel => exact ⟨j + 1, E, o ++ [D.nx o (M.zag U)], by omega, by omega, by omega, rfl, by go_num, HLn, HNext, HO9, HX9⟩
          case measure => simp [intOf]; omega
        · obtain ⟨g, oc, hvg, hgb, hgs, hoc, hocm⟩ := HO.out.form (by rw [HLo.out]; omega)
          subst hvg
          have hLoE := HLo.out
          obtain ⟨j1, hj1⟩ : ∃ j1, j = j1 + 1 := ⟨j - 1, by omega⟩
          have hj1i : (j : Int) - 1 = (j1 : Int) := by omega
          have hc1 := HO.out.cell rfl (k := j1) (by omega)
          obtain ⟨y, hy⟩ : ∃ y, y = o[j1]'(by omega) := ⟨_, rfl⟩
          rw [← hy] at hc1
          have hc1' : wr.cell? ⟨g, j1, none⟩ = some (.int .i64 y) := hc1
          have hyg : o.getD j1 0 = y := by
            have : j1 < o.length := by omega
            rw [hy]; simp [this]
          have hi1 : (j1 : Int) < (o.length : Int) := by omega
          have t0 : decide (0 < (j : Int)) = true := by simp; omega
          have hjl : j1 + 1 ≤ j := by omega
          have hjl2 : j ≤ j1 + 1 := by omega
          by_cases j1' : j = 1
          · have t1 : decide (1 < (j : Int)) = false := by simp; omega
            have hnx : D.nx o (M.zag U) = wrap64 (Zz + y) := by
              unfold D.nx
              rw [if_neg (by rw [hLoE]; exact j0), if_pos (by rw [hLoE]; exact j1'), HZz.out, ← wr64, ← hyg, show j1 = 0 from by omega]
            have HNx : Hid (D.nx o (M.zag U) = wrap64 (Zz + y)) := hnx
            clear hnx j0 j1' hj1 hc1 hy hyg hLoE
            go_wp2_with fail
            refine (rget_is a _ cap b _ _ U E 0 HGe.out (HB.out.below HX.out) rfl).mono ?_
            rintro e wq ⟨rfl, hw⟩
            have hw' := hw.symm; clear hw; subst hw'
            go_wp2_with fail
            refine (rzag_any _ Zz _ (by omega) (by omega) HZz.out).mono ?_
            rintro e wq ⟨rfl, hw⟩
            have hw' := hw.symm; clear hw; subst hw'
            go_wp2_with (at_builtin; refine wpList_append_rd (e := 2) (enc := z64) rfl (.tmp 77) (.tmp 79) 22 rfl 0 8 Try.underlying22 Try.info2 rfl (fun _ => rfl) w.heap.size _ o rfl (HO.out.alloc _) _ _ _ [wrap64 (Zz + y)] rfl rfl (Rd.laid wr 2 [wrap64 (Zz + y)] (by simp)) (by have := HLo.out; simp [maxLen]; omega) (by have := HLo.out; simp; omega) (by have := HX.out.size; simp; omega) ?_; intro v9 w9 ho9 hg9; have X9 : Below w.heap.size w w9 := step_belowR (Below.alloc HX.out HX.out.size _) (by have := HX.out.size; simp; omega) (HO.out.alloc _) hg9; clear hg9)
            have HO9 : Hid (OwnR 2 z64 w9 w.heap.size v9 (o ++ [D.nx o (M.zag U)])) := (by rw [HNx.out]; exact ho9 : OwnR 2 z64 w9 w.heap.size v9 (o ++ [D.nx o (M.zag U)]))
            have HX9 : Hid (Below w.heap.size w w9) := X9
            have HLn : Hid ((o ++ [D.nx o (M.zag U)]).length = j + 1) := (by have := HLo.out; simp; omega : (o ++ [D.nx o (M.zag U)]).length = j + 1)
            clear ho9 X9
            go_wp2
            go_roundw
            case rel => exact ⟨j + 1, E, o ++ [D.nx o (M.zag U)], by omega, by omega, by omega, rfl, by go_num, HLn, HNext, HO9, HX9⟩
            case measure => simp [intOf]; omega
          · have t1 : decide (1 < (j : Int)) = true := by simp; omega
            obtain ⟨j2, hj2'⟩ : ∃ j2, j = j2 + 2 := ⟨j - 2, by omega⟩
            have hj2i : (j : Int) - 2 = (j2 : Int) := by omega
            have hc2 := HO.out.cell rfl (k := j2) (by omega)
            obtain ⟨z, hz⟩ : ∃ z, z = o[j2]'(by omega) := ⟨_, rfl⟩
            rw [← hz] at hc2
            have hc2' : wr.cell? ⟨g, j2, none⟩ = some (.int .i64 z) := hc2
            have hzg : o.getD j2 0 = z := by
              have : j2 < o.length := by omega
              rw [hz]; simp [this]
            have hi2 : (j2 : Int) < (o.length : Int) := by omega
            have hnx : D.nx o (M.zag U) = wrap64 (wrap64 (Zz + wrap64 (y - z)) + y) := by
              unfold D.nx
              rw [if_neg (by rw [hLoE]; exact j0), if_neg (by rw [hLoE]; exact j1'), HZz.out, hLoE, show j - 1 = j1 from by omega, show j - 2 = j2 from by omega, hyg, hzg, wr64, wr64, wr64]
            have HNx : Hid (D.nx o (M.zag U) = wrap64 (wrap64 (Zz + wrap64 (y - z)) + y)) := hnx
            clear hnx j0 j1' hj1 hj2' hc1 hc2 hy hyg hz hzg hLoE
            go_wp2_with fail
            refine (rget_is a _ cap b _ _ U E 0 HGe.out (HB.out.below HX.out) rfl).mono ?_
            rintro e wq ⟨rfl, hw⟩
            have hw' := hw.symm; clear hw; subst hw'
            go_wp2_with fail
            refine (rzag_any _ Zz _ (by omega) (by omega) HZz.out).mono ?_
            rintro e wq ⟨rfl, hw⟩
            have hw' := hw.symm; clear hw; subst hw'
            go_wp2_with fail
            go_quiet (fail)
            go_wp2_with (at_builtin; refine wpList_append_rd (e := 2) (enc := z64) rfl (.tmp 77) (.tmp 79) 22 rfl 0 8 Try.underlying22 Try.info2 rfl (fun _ => rfl) w.heap.size _ o rfl ((HO.out.drewN _).alloc _) _ _ _ [wrap64 (wrap64 (Zz + wrap64 (y - z)) + y)] rfl rfl (Rd.laid _ 2 [wrap64 (wrap64 (Zz + wrap64 (y - z)) + y)] (by simp)) (by have := HLo.out; simp [maxLen]; omega) (by have := HLo.out; simp; omega) (by have := HX.out.size; simp; omega) ?_; intro v9 w9 ho9 hg9; have X9 : Below w.heap.size w w9 := step_belowR (Below.alloc (Below.drewN HX.out _) (Below.drewN HX.out _).size _) (by have := HX.out.size; simp; omega) ((HO.out.drewN _).alloc _) hg9; clear hg9)
            have HO9 : Hid (OwnR 2 z64 w9 w.heap.size v9 (o ++ [D.nx o (M.zag U)])) := (by rw [HNx.out]; exact ho9 : OwnR 2 z64 w9 w.heap.size v9 (o ++ [D.nx o (M.zag U)]))
            have HX9 : Hid (Below w.heap.size w w9) := X9
            have HLn : Hid ((o ++ [D.nx o (M.zag U)]).length = j + 1) := (by have := HLo.out; simp; omega : (o ++ [D.nx o (M.zag U)]).length = j + 1)
            clear ho9 X9
            go_wp2
            go_roundw
            case rel => exact ⟨j + 1, E, o ++ [D.nx o (M.zag U)], by omega, by omega, by omega, rfl, by go_num, HLn, HNext, HO9, HX9⟩
            case measure => simp [intOf]; omega
      · have hfin := hD
        rw [if_pos he] at hfin
        simp only [Prod.mk.injEq] at hfin
        obtain ⟨rfl, rfl, rfl⟩ := hfin
        have tne : ((e1 : Int) != 0) = true := by simp; omega
        clear hD HD
        go_wp2_with fail
        refine (rget_is a _ cap b _ _ U E e1 HGe.out (HB.out.below HX.out) rfl).mono ?_
        rintro e wq ⟨rfl, hw⟩
        have hw' := hw.symm; clear hw; subst hw'
        go_wp2
        go_ret3
        exact ⟨_, rfl, OwnR.nil _ _, HX.out⟩
    · obtain rfl : j = n := by omega
      have hfin := HD.out
      rw [Nat.sub_self] at hfin
      simp only [D.dgo, Prod.mk.injEq] at hfin
      obtain ⟨rfl, rfl, rfl⟩ := hfin
      obtain ⟨ao, co, hvo, hRo⟩ := HO.out.rd
      subst hvo
      have HRo : Hid (OwnR 2 z64 wr w.heap.size (.slice ao o.length co) o) := HO
      clear hRo HO HD
      go_wp2
      go_ret3
      exact ⟨_, rfl, HRo.out, HX.out⟩

set_option maxRecDepth 100000 in
set_option maxHeartbeats 1000000 in
/-- The document's own Decode. -/
theorem rdec_any (a : Option Addr) (len cap : Nat) (b : List UInt8) (p most : Int) (w : World) (hlen : len = b.length) (hB : Byt w a cap b) (hbl : b.length ≤ 140737488355328) (m1 : -9223372036854775808 ≤ most) (m2 : most ≤ 9223372036854775807) (hcap : most ≤ 2000000 ∨ b.length ≤ 2000000) (r : List Int) (k0 e0 : Nat) (hr : D.dec b p most = (r, k0, e0)) :
    Calls Try.prog 40 #[.slice a len cap, .int .i64 p, .int .i64 most] w fun e w' => ∃ v, e = .returned (.tuple #[v, .int .i64 k0, .int .i64 e0]) ∧ OwnR 2 z64 w' w.heap.size v r ∧ Ex w w' := by
  subst hlen
  obtain ⟨⟨n, K, e1⟩, hg⟩ : ∃ x, M.get b p = x := ⟨_, rfl⟩
  have hall := M.get_all b p
  rw [hg] at hall
  have hn64 : n < 18446744073709551616 := hall.1
  have he12 : e1 ≤ 12 := hall.2.2
  unfold D.dec at hr
  rw [hg] at hr
  simp only at hr
  clear hall
  by_cases he : e1 = 0
  · subst he
    rw [if_neg (by simp)] at hr
    by_cases hneg : most < 0
    · have HB : Hid (Byt w a cap b) := hB
      have HG : Hid (M.get b p = (n, K, 0)) := hg
      have tn : decide (most < 0) = true := by simp; omega
      by_cases hz : n = 0
      · subst hz
        rw [if_neg (by omega)] at hr
        simp only [D.dgo, Prod.mk.injEq] at hr
        obtain ⟨rfl, rfl, rfl⟩ := hr
        clear hB hg
        go_enter Try.func40, Try.ntmps40
        go_wp2_with fail
        refine (rget_is a _ cap b p _ 0 K 0 HG.out HB.out rfl).mono ?_
        rintro e wq ⟨rfl, hw⟩
        have hw' := hw.symm; clear hw; subst hw'
        go_wp2_with fail
        go_loop [10, 12, 13] (fun kv v i => kv = .int .i64 K ∧ v = .slice none 0 0 ∧ i = .int .i64 0) (fun _ _ _ => 0)
        case atStart => exact ⟨rfl, rfl, rfl⟩
        case round =>
          obtain ⟨rfl, rfl, rfl⟩ := hrel
          go_wp2
          go_ret3
          exact ⟨_, rfl, OwnR.nil _ _, Ex.refl _⟩
      · rw [if_pos (by omega)] at hr
        simp only [Prod.mk.injEq] at hr
        obtain ⟨rfl, rfl, rfl⟩ := hr
        have tz : decide (0 < n) = true := by simp; omega
        have hnp : 0 < n := by omega
        clear hB hg hz
        go_enter Try.func40, Try.ntmps40
        go_wp2_with fail
        refine (rget_is a _ cap b p _ n K 0 HG.out HB.out rfl).mono ?_
        rintro e wq ⟨rfl, hw⟩
        have hw' := hw.symm; clear hw; subst hw'
        go_wp2
        go_ret3
        exact ⟨_, rfl, OwnR.nil _ _, Ex.refl _⟩
    · obtain ⟨Mo, rfl⟩ := Int.eq_ofNat_of_zero_le (show 0 ≤ most by omega)
      rw [Int.toNat_natCast] at hr
      by_cases hm : Mo < n
      · rw [if_pos hm] at hr
        simp only [Prod.mk.injEq] at hr
        obtain ⟨rfl, rfl, rfl⟩ := hr
        have HB : Hid (Byt w a cap b) := hB
        have HG : Hid (M.get b p = (n, K, 0)) := hg
        have tn : decide ((Mo : Int) < 0) = false := by simp
        have tm : decide (Mo < n) = true := by simp; omega
        clear hB hg
        go_enter Try.func40, Try.ntmps40
        go_wp2_with fail
        refine (rget_is a _ cap b p _ n K 0 HG.out HB.out rfl).mono ?_
        rintro e wq ⟨rfl, hw⟩
        have hw' := hw.symm; clear hw; subst hw'
        go_wp2
        go_ret3
        exact ⟨_, rfl, OwnR.nil _ _, Ex.refl _⟩
      · rw [if_neg hm] at hr
        exact rdec_main a cap b p Mo n K w hB hbl (by omega) (by omega) hg (by omega) r k0 e0 hr
  · rw [if_pos he] at hr
    simp only [Prod.mk.injEq] at hr
    obtain ⟨rfl, rfl, rfl⟩ := hr
    have HB : Hid (Byt w a cap b) := hB
    have HG : Hid (M.get b p = (n, K, e1)) := hg
    have tne : ((e1 : Int) != 0) = true := by simp; omega
    clear hB hg
    go_enter Try.func40, Try.ntmps40
    go_wp2_with fail
    refine (rget_is a _ cap b p _ n K e1 HG.out HB.out rfl).mono ?_
    rintro e wq ⟨rfl, hw⟩
    have hw' := hw.symm; clear hw; subst hw'
    go_wp2
    go_ret3
    exact ⟨_, rfl, OwnR.nil _ _, Ex.refl _⟩
end Go.Proofs.Ytaehchaimlklnaa
