/-
  Package delta: the contract of Decode.
-/
import Derived.Test.YtaehchaimlklnaaStand
namespace Go.Proofs.Ytaehchaimlklnaa
open Go.RowKit
set_option linter.unusedVariables false

/-- 'make([]T, 0, m)', of elements that are one cell each. -/
theorem wpList_make_cap {α : Type} {enc : α → Value} {w : World} {ops : Array Oper} {rest : List Oper} {o : Oper} {a : Act} {Q : Exit → Act → World → Prop}
    (hg : o.guard = none) (l c : Operand) (t e : TypeId) (hop : o.op = Op.makeSlice t l c) (z : α) (B : Nat) (ht : Try.prog.underlying t = some (.slice e)) (hinfo : (Try.prog.info? e).map (fun i => (i.zero, i.size, i.bytes)) = some (some (enc z), 1, B))
    (base : Nat) (hbase : base ≤ w.heap.size) (C : Int) (m : Nat) (hl : a.eval l = .int .i64 0) (hc : a.eval c = .int .i64 C) (hC : C = (m : Int)) (b2 : B * m ≤ 281474976710656) (b3 : m ≤ 281474976710656)
    (hK : ∀ (w' : World) (v : Value), OwnR e enc w' base v [] → Below w.heap.size w w' → wpList Try.prog ops Q rest (a.put o.dst v) w') :
    wpList Try.prog ops Q (o :: rest) a w := by
  obtain ⟨i0, hi, hz0, hz1, hz2⟩ := info_parts hinfo
  have hbm : (B : Int) * (m : Int) ≤ 281474976710656 := by
    have h : ((B * m : Nat) : Int) ≤ 281474976710656 := by omega
    rwa [Int.natCast_mul] at h
  refine wpList_plain hg fun K hK' => ?_
  subst hC
  have hrun := run_make (P := Try.prog) w t e i0 (enc z) ht hi hz0 .i64 .i64 (0 : Int) (m : Int) (by omega) (by omega) (by rw [hz2]; exact hbm) (by omega)
  simp only [Int.toNat_natCast, Int.toNat_zero] at hrun
  unfold Oper.wp
  simp [execOp, hop, hl, hc, hrun, Result.andThen]
  refine hK' _ _ (hK _ _ ?_ ((Below.refl _ _).alloc (Nat.le_refl _) _))
  exact World.ownsRow_made w _ m hbase (by unfold maxLen; omega) (by simp [size_madeCells, hz1])

theorem zag_ok {U : Nat} (h : U < 18446744073709551616) : D.ok (M.zag (U : Int)) := by
  unfold D.ok M.zag
  split <;> omega
set_option maxRecDepth 100000 in
set_option maxHeartbeats 2000000 in
theorem sdec_main (a : Option Addr) (cap : Nat) (b : List UInt8) (p : Int) (Mo n K : Nat) (most : Int) (w : World) (hB : Byt w a cap b) (hbl : b.length ≤ 140737488355328) (hMo : (if 0 > most then 0 else most) = (Mo : Int)) (hMo2 : Mo ≤ 9223372036854775807) (hcap : Mo ≤ 2000000 ∨ b.length ≤ 2000000) (hg : M.get b p = (n, K, 0)) (hn : n ≤ Mo) (r : List Int) (k0 e0 : Nat) (hr : D.dgo b n K [] = (r, k0, e0)) :
    Calls Try.prog 37 #[.slice a b.length cap, .int .i64 p, .int .i64 most] w fun e w' => ∃ v, e = .returned (.tuple #[v, .int .i64 k0, .int .i64 e0]) ∧ OwnR 2 z64 w' w.heap.size v r ∧ Ex w w' := by
  obtain ⟨base, hbase⟩ : ∃ base, base = w.heap.size := ⟨_, rfl⟩
  have HBa : Hid (base = w.heap.size) := hbase
  have hbs : base ≤ w.heap.size := by omega
  have HB : Hid (Byt w a cap b) := hB
  have HG : Hid (M.get b p = (n, K, 0)) := hg
  have hKb : K ≤ b.length := by have := M.get_all b p; rw [hg] at this; exact this.2.1
  have HR : Hid (D.dgo b (n - 0) K [] = (r, k0, e0)) := hr
  obtain ⟨Cc, hCc⟩ : ∃ Cc : Nat, Cc = min n (b.length - K) := ⟨_, rfl⟩
  have hc1 : Cc ≤ n := by omega
  have hc2 : Cc ≤ b.length - K := by omega
  have HCc : Hid ((if (b.length : Int) - (K : Int) < (n : Int) then (b.length : Int) - (K : Int) else (n : Int)) = (Cc : Int)) := (by split <;> omega : (if (b.length : Int) - (K : Int) < (n : Int) then (b.length : Int) - (K : Int) else (n : Int)) = (Cc : Int))
  have hc3 : Cc ≤ 2000000 := by omega
  have tm : decide (Mo < n) = false := by simp; omega
  have hmax : ∀ (ts : Array TypeId) (t : TypeId) (W : World), (Builtin.max_ ts t #[.int .i64 most, .int .i64 0]).run Try.prog W = .ok (.int .i64 (Mo : Int)) W := fun ts t W => by rw [run_max_int2, hMo]
  have hmin : ∀ (ts : Array TypeId) (t : TypeId) (W : World), (Builtin.min_ ts t #[.int .i64 (n : Int), .int .i64 ((b.length : Int) - (K : Int))]).run Try.prog W = .ok (.int .i64 (Cc : Int)) W := fun ts t W => by rw [run_min_int2, HCc.out]
  clear hB hg hr hbase hCc hMo
  go_enter Try.func37, Try.ntmps37
  go_wp2_with fail
  refine (get_is a _ cap b p _ n K 0 HG.out HB.out rfl).mono ?_
  rintro e wq ⟨rfl, hw⟩
  have hw' := hw.symm; clear hw; subst hw'
  go_wp2_with (at_make; refine wpList_make_cap (enc := z64) rfl _ _ 22 2 rfl 0 8 Try.underlying22 Try.info2 base hbs _ Cc rfl rfl rfl (by omega) (by omega) ?_; intro w1 v1 hr1 hb1)
  have HO1 : Hid (OwnR 2 z64 w1 base v1 []) := hr1
  have HX1 : Hid (Below base w w1) := (by rw [HBa.out]; exact hb1 : Below base w w1)
  clear hr1 hb1 hmax hmin
  go_loopw [10, 12, 13, 14, 43] (fun kv v x1 x2 i wr => ∃ (j kk : Nat) (LA ST : Int) (o : List Int), j ≤ n ∧ j ≤ kk ∧ kk ≤ b.length ∧ kv = .int .i64 kk ∧ i = .int .i64 j ∧ x1 = .int .i64 LA ∧ x2 = .int .i64 ST ∧ Hid (LA = D.la o o.length) ∧ Hid (ST = D.st o o.length) ∧ Hid (o.length = j) ∧ Hid (D.dgo b (n - j) kk o = (r, k0, e0)) ∧ Hid (OwnR 2 z64 wr base v o) ∧ Hid (Below base w wr)) (fun _ _ _ _ i _ => n - (intOf i).toNat)
  case atStart =>
    have h1 : ([] : List Int).length = 0 := rfl
    exact ⟨0, K, 0, 0, [], by omega, by omega, hKb, rfl, rfl, rfl, rfl, (rfl : (0 : Int) = D.la [] 0), (rfl : (0 : Int) = D.st [] 0), h1, HR, HO1, HX1⟩
  case round =>
    obtain ⟨j, kk, LA, ST, o, hj, hjk, hkk, rfl, rfl, rfl, rfl, HLA, HST, HLo, HD, HO, HX⟩ := hrel
    clear HR HO1 HX1
    have hj2 : j ≤ 2000000 := by omega
    have hEx : Ex w wr := by have := HX.out; rw [HBa.out] at this; exact this
    have hsz : base ≤ wr.heap.size := by rw [HBa.out]; exact hEx.size
    have HEx : Hid (Ex w wr) := hEx
    clear hEx
    by_cases hlt : j < n
    · obtain ⟨⟨U, E, e1⟩, hge⟩ : ∃ x, M.get b (kk : Int) = x := ⟨_, rfl⟩
      have HGe : Hid (M.get b (kk : Int) = (U, E, e1)) := hge
      have hall := M.get_all b (kk : Int)
      rw [hge] at hall
      have hU : U < 18446744073709551616 := hall.1
      have he12 : e1 ≤ 12 := hall.2.2
      have hD := HD.out
      rw [show n - j = (n - (j + 1)) + 1 from by omega, D.dgo, hge] at hD
      clear hall hge
      have tj : decide ((j : Int) < (n : Int)) = true := by simp; omega
      by_cases he : e1 = 0
      · subst he
        have hst := get_step HGe.out
        simp only [ne_eq, not_true_eq_false, if_false] at hD
        have hE1 := hst.1
        have hE2 := hst.2
        obtain ⟨Zz, hZz⟩ : ∃ Zz, M.zag (U : Int) = Zz := ⟨_, rfl⟩
        have HZz : Hid (M.zag (U : Int) = Zz) := hZz
        obtain ⟨X, hX⟩ : ∃ X, X = wrap64 (wrap64 (LA + ST) + Zz) := ⟨_, rfl⟩
        have hzo : D.ok Zz := by rw [← hZz]; exact zag_ok hU
        have hnx : D.nx o (M.zag (U : Int)) = X := by rw [hZz, D.nx_carry o hzo, ← HLA.out, ← HST.out, wr64, wr64, hX]
        rw [hnx] at hD
        have HNext : Hid (D.dgo b (n - (j + 1)) E (o ++ [X]) = (r, k0, e0)) := hD
        obtain ⟨S2, hS2⟩ : ∃ S2, (if j = 0 then 0 else wrap64 (X - LA)) = S2 := ⟨_, rfl⟩
        have HS2 : Hid ((if j = 0 then 0 else wrap64 (X - LA)) = S2) := hS2
        have hol : (o ++ [X]).length = o.length + 1 := by simp
        have HS3 : Hid (S2 = D.st (o ++ [X]) (o ++ [X]).length) := (by rw [hol, D.st_snoc, HLo.out, ← hS2, HLA.out, HLo.out, wr64] : S2 = D.st (o ++ [X]) (o ++ [X]).length)
        have HL3 : Hid (X = D.la (o ++ [X]) (o ++ [X]).length) := (by rw [hol, D.la_snoc] : X = D.la (o ++ [X]) (o ++ [X]).length)
        have HX' : Hid (X = wrap64 (wrap64 (LA + ST) + Zz)) := hX
        clear hD hst HD hZz hzo hnx hS2 hol hX
        go_wp2_with fail
        refine (get_is a _ cap b _ _ U E 0 HGe.out (HB.out.below HEx.out) rfl).mono ?_
        rintro e wq ⟨rfl, hw⟩
        have hw' := hw.symm; clear hw; subst hw'
        go_wp2_with fail
        refine (zag_is _ Zz _ (by omega) (by omega) HZz.out).mono ?_
        rintro e wq ⟨rfl, hw⟩
        have hw' := hw.symm; clear hw; subst hw'
        go_wp2_with fail
        rw [← HX'.out]
        refine (stepTo_is _ LA X j S2 _ (by first | rfl | omega) HS2.out).mono ?_
        rintro e wq ⟨rfl, hw⟩
        have hw' := hw.symm; clear hw; subst hw'
        go_wp2_with (at_builtin; refine wpList_append_rd (e := 2) (enc := z64) rfl (.tmp 67) (.tmp 69) 22 rfl 0 8 Try.underlying22 Try.info2 rfl (fun _ => rfl) base _ o rfl (HO.out.alloc _) _ _ _ [X] rfl rfl (Rd.laid wr 2 [X] (by simp)) (by have := HLo.out; simp [maxLen]; omega) (by have := HLo.out; simp; omega) (by simp; omega) ?_; intro v9 w9 ho9 hg9; have X9 : Below base w w9 := step_belowR (Below.alloc HX.out hsz _) (by simp; omega) (HO.out.alloc _) hg9; clear hg9)
        have HO9 : Hid (OwnR 2 z64 w9 base v9 (o ++ [X])) := ho9
        have HX9 : Hid (Below base w w9) := X9
        have HLn : Hid ((o ++ [X]).length = j + 1) := (by have := HLo.out; simp; omega : (o ++ [X]).length = j + 1)
        clear ho9 X9
        go_wp2
        go_roundw
        case rel => exact ⟨j + 1, E, X, S2, o ++ [X], by omega, by omega, by omega, rfl, by go_num, rfl, rfl, HL3, HS3, HLn, HNext, HO9, HX9⟩
        case measure => simp [intOf]; omega
      · have hfin := hD
        rw [if_pos he] at hfin
        simp only [Prod.mk.injEq] at hfin
        obtain ⟨rfl, rfl, rfl⟩ := hfin
        have tne : ((e1 : Int) != 0) = true := by simp; omega
        clear hD HD
        go_wp2_with fail
        refine (get_is a _ cap b _ _ U E e1 HGe.out (HB.out.below HEx.out) rfl).mono ?_
        rintro e wq ⟨rfl, hw⟩
        have hw' := hw.symm; clear hw; subst hw'
        go_wp2
        go_ret3
        exact ⟨_, rfl, OwnR.nil _ _, HEx.out⟩
    · obtain rfl : j = n := by omega
      have hfin := HD.out
      rw [Nat.sub_self] at hfin
      simp only [D.dgo, Prod.mk.injEq] at hfin
      obtain ⟨rfl, rfl, rfl⟩ := hfin
      obtain ⟨ao, co, hvo, hRo⟩ := HO.out.rd
      subst hvo
      have HRo : Hid (OwnR 2 z64 wr base (.slice ao o.length co) o) := HO
      clear hRo HO HD
      go_wp2
      go_ret3
      exact ⟨_, rfl, (by have h := HRo.out; rw [HBa.out] at h; exact h), HEx.out⟩

set_option maxRecDepth 100000 in
set_option maxHeartbeats 1000000 in
/-- Decode. -/
theorem sdec_any (a : Option Addr) (len cap : Nat) (b : List UInt8) (p most : Int) (w : World) (hlen : len = b.length) (hB : Byt w a cap b) (hbl : b.length ≤ 140737488355328) (m1 : -9223372036854775808 ≤ most) (m2 : most ≤ 9223372036854775807) (hcap : most ≤ 2000000 ∨ b.length ≤ 2000000) (r : List Int) (k0 e0 : Nat) (hr : D.dec b p most = (r, k0, e0)) :
    Calls Try.prog 37 #[.slice a len cap, .int .i64 p, .int .i64 most] w fun e w' => ∃ v, e = .returned (.tuple #[v, .int .i64 k0, .int .i64 e0]) ∧ OwnR 2 z64 w' w.heap.size v r ∧ Ex w w' := by
  subst hlen
  obtain ⟨⟨n, K, e1⟩, hg⟩ : ∃ x, M.get b p = x := ⟨_, rfl⟩
  have hall := M.get_all b p
  rw [hg] at hall
  have hn64 : n < 18446744073709551616 := hall.1
  have he12 : e1 ≤ 12 := hall.2.2
  unfold D.dec at hr
  rw [hg] at hr
  simp only at hr
  clear hall
  by_cases he : e1 = 0
  · subst he
    rw [if_neg (by simp)] at hr
    obtain ⟨Mo, hMo⟩ : ∃ Mo : Nat, Mo = most.toNat := ⟨_, rfl⟩
    rw [← hMo] at hr
    have hMx : (if 0 > most then 0 else most) = (Mo : Int) := by split <;> omega
    by_cases hm : Mo < n
    · rw [if_pos hm] at hr
      simp only [Prod.mk.injEq] at hr
      obtain ⟨rfl, rfl, rfl⟩ := hr
      have HB : Hid (Byt w a cap b) := hB
      have HG : Hid (M.get b p = (n, K, 0)) := hg
      have tm : decide (Mo < n) = true := by simp; omega
      have hmax : ∀ (ts : Array TypeId) (t : TypeId) (W : World), (Builtin.max_ ts t #[.int .i64 most, .int .i64 0]).run Try.prog W = .ok (.int .i64 (Mo : Int)) W := fun ts t W => by rw [run_max_int2, hMx]
      have hMo2 : Mo ≤ 9223372036854775807 := by omega
      clear hB hg hMx hMo
      go_enter Try.func37, Try.ntmps37
      go_wp2_with fail
      refine (get_is a _ cap b p _ n K 0 HG.out HB.out rfl).mono ?_
      rintro e wq ⟨rfl, hw⟩
      have hw' := hw.symm; clear hw; subst hw'
      go_wp2
      go_ret3
      exact ⟨_, rfl, OwnR.nil _ _, Ex.refl _⟩
    · rw [if_neg hm] at hr
      exact sdec_main a cap b p Mo n K most w hB hbl hMx (by omega) (by omega) hg (by omega) r k0 e0 hr
  · rw [if_pos he] at hr
    simp only [Prod.mk.injEq] at hr
    obtain ⟨rfl, rfl, rfl⟩ := hr
    have HB : Hid (Byt w a cap b) := hB
    have HG : Hid (M.get b p = (n, K, e1)) := hg
    have tne : ((e1 : Int) != 0) = true := by simp; omega
    clear hB hg
    go_enter Try.func37, Try.ntmps37
    go_wp2_with fail
    refine (get_is a _ cap b p _ n K e1 HG.out HB.out rfl).mono ?_
    rintro e wq ⟨rfl, hw⟩
    have hw' := hw.symm; clear hw; subst hw'
    go_wp2
    go_ret3
    exact ⟨_, rfl, OwnR.nil _ _, Ex.refl _⟩
end Go.Proofs.Ytaehchaimlklnaa
